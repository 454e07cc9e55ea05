package syntax

import (
	"math"

	"lazyc/api"
)

// fields is a set of fields of a tree.
type fields int

// The fields of expressions, patterns and declarations, apart from Op and Kids.
const (
	nameField fields = 1 << iota
	numberField
	textField
	namesField
	negField
	patsField
	altsField
	declsField
	stmtsField
	fieldsField
	predsField
	typesField
	assocField
	consField
	deriveField
	classField
	typeField
	clausesField
	patField
	rhsField
	whereField
)

// used returns the field if that is not zero, and otherwise no field.
func (f fields) used(isUsed bool) fields {
	if isUsed {
		return f
	}
	return 0
}

// form says which fields a tree may use, and how many Kids it has at least and at most.
type form struct {
	may         fields
	least, most int
}

const many = math.MaxInt

// permits reports whether a tree of the form may use these fields, and have that many Kids.
func (f form) permits(used fields, kids int) bool {
	return used&^f.may == 0 && f.least <= kids && kids <= f.most
}

// impossible is the form of a tree whose Op is unknown.
func impossible() form { return form{least: 1} }

func exprForm(op api.ExprOp) form {
	switch op {
	case api.EVar, api.ECon:
		return form{may: nameField}
	case api.EInt, api.EChar:
		return form{may: numberField}
	case api.EString:
		return form{may: textField}
	case api.EApp, api.ERange:
		return form{0, 2, 2}
	case api.EInfix:
		return form{namesField | negField, 1, many}
	case api.ENeg, api.EParen:
		return form{0, 1, 1}
	case api.ELam:
		return form{patsField, 1, 1}
	case api.ELet:
		return form{declsField, 1, 1}
	case api.EIf:
		return form{0, 3, 3}
	case api.ECase:
		return form{altsField, 1, 1}
	case api.EDo:
		return form{may: stmtsField | namesField}
	case api.ETuple:
		return form{0, 0, api.MaxTuple}
	case api.EList:
		return form{0, 0, many}
	case api.EComp:
		return form{stmtsField, 1, 1}
	case api.ELeft, api.ERight:
		return form{nameField, 1, 1}
	case api.ESig:
		return form{predsField | typesField, 1, 1}
	case api.ERecord:
		return form{may: nameField | fieldsField}
	case api.EUpdate:
		return form{fieldsField, 1, 1}
	}
	return impossible()
}

func patForm(op api.PatOp) form {
	switch op {
	case api.PVar:
		return form{may: nameField}
	case api.PWild:
		return form{}
	case api.PInt, api.PChar:
		return form{may: numberField}
	case api.PString:
		return form{may: textField}
	case api.PCon:
		return form{nameField, 0, many}
	case api.PTuple:
		return form{0, 0, api.MaxTuple}
	case api.PList:
		return form{0, 0, many}
	case api.PAs:
		return form{nameField, 1, 1}
	case api.PLazy, api.PParen:
		return form{0, 1, 1}
	case api.PRecord:
		return form{nameField | namesField, 0, many}
	case api.PInfix:
		return form{namesField, 2, many}
	}
	return impossible()
}

func declForm(op api.DeclOp) form {
	switch op {
	case api.DData:
		return form{may: nameField | namesField | consField | deriveField}
	case api.DClass:
		return form{may: nameField | namesField | predsField | declsField}
	case api.DInst:
		return form{may: predsField | classField | typeField | declsField}
	case api.DSig:
		return form{may: namesField | predsField | typeField}
	case api.DFix:
		return form{may: assocField | numberField | namesField}
	case api.DFun:
		return form{may: nameField | clausesField}
	case api.DPat:
		return form{may: patField | rhsField | whereField}
	}
	return impossible()
}

func fieldsOfExpr(e *api.Expr) fields {
	return nameField.used(e.Name != "") | numberField.used(e.N != 0) | textField.used(e.Text != "") |
		namesField.used(len(e.Names) > 0) | negField.used(len(e.Neg) > 0) | patsField.used(len(e.Pats) > 0) |
		altsField.used(len(e.Alts) > 0) | declsField.used(len(e.Decls) > 0) | stmtsField.used(len(e.Stmts) > 0) |
		fieldsField.used(len(e.Fields) > 0) | predsField.used(len(e.Preds) > 0) | typesField.used(len(e.Types) > 0)
}

func fieldsOfPat(p *api.Pat) fields {
	return nameField.used(p.Name != "") | numberField.used(p.N != 0) | textField.used(p.Text != "") |
		namesField.used(len(p.Names) > 0)
}

func fieldsOfDecl(d *api.Decl) fields {
	return nameField.used(d.Name != "") | numberField.used(d.N != 0) | namesField.used(len(d.Names) > 0) |
		assocField.used(d.Assoc != 0) | consField.used(len(d.Cons) > 0) | deriveField.used(len(d.Derive) > 0) |
		predsField.used(len(d.Preds) > 0) | classField.used(d.Class != "") | typeField.used(!isZeroType(&d.Type)) |
		declsField.used(len(d.Decls) > 0) | clausesField.used(len(d.Clauses) > 0) | patField.used(!isZeroPat(&d.Pat)) |
		rhsField.used(len(d.Rhs) > 0) | whereField.used(len(d.Where) > 0)
}

func isZeroExpr(e *api.Expr) bool { return e.Op == 0 && fieldsOfExpr(e) == 0 && len(e.Kids) == 0 }

func isZeroPat(p *api.Pat) bool { return p.Op == 0 && fieldsOfPat(p) == 0 && len(p.Kids) == 0 }

func isZeroType(t *api.Type) bool {
	return t.Op == 0 && t.Name == "" && len(t.Bound.Args) == 0 && len(t.Kids) == 0
}
