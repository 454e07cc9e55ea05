package types

import "lazyc/api"

// Check reports whether the type is valid.
func Check(t api.Type) api.Errno {
	switch {
	case !isFormed(t):
		return api.ErrArg
	case Size(t) > api.MaxSize || hasKind(t, isLongKind):
		return api.ErrLong
	case Depth(t) > api.MaxDepth || hasKind(t, isDeepKind):
		return api.ErrDepth
	}
	return api.OK
}

func isValid(t api.Type) bool { return Check(t) == api.OK }

// isFormed reports whether every node of t has one of the forms of types.
func isFormed(t api.Type) bool {
	switch t.Op {
	case api.TVar:
		return isVarName(t.Name) && !hasArgs(t.Bound) && len(t.Kids) == 0
	case api.TCon:
		return isConName(t.Name) && !hasArgs(t.Bound) && len(t.Kids) == 0
	case api.TApp:
		return t.Name == "" && !hasArgs(t.Bound) && len(t.Kids) == 2 && isFormed(t.Kids[0]) && isFormed(t.Kids[1])
	case api.TForall:
		return isVarName(t.Name) && len(t.Kids) == 1 && isFormed(t.Kids[0])
	}
	return false
}

// hasKind reports whether a kind in t is of a sort.
func hasKind(t api.Type, is func(api.Kind) bool) bool {
	if is(t.Bound) {
		return true
	}
	for _, kid := range t.Kids {
		if hasKind(kid, is) {
			return true
		}
	}
	return false
}

// checkKind reports whether the kind is valid.
func checkKind(k api.Kind) api.Errno {
	switch {
	case isLongKind(k):
		return api.ErrLong
	case isDeepKind(k):
		return api.ErrDepth
	}
	return api.OK
}

func isLongKind(k api.Kind) bool { return kindSize(k) > api.MaxSize }

func isDeepKind(k api.Kind) bool { return kindDepth(k) > api.MaxDepth }

// hasArgs reports whether k is a kind of constructors with parameters.
func hasArgs(k api.Kind) bool { return len(k.Args) > 0 }

func kindSize(k api.Kind) int {
	size := 1
	for _, arg := range k.Args {
		size += kindSize(arg)
	}
	return size
}

func kindDepth(k api.Kind) int {
	deepest := 0
	for _, arg := range k.Args {
		deepest = max(deepest, kindDepth(arg))
	}
	return deepest + 1
}

// checkScheme reports whether the scheme is valid.
func checkScheme(s api.Scheme) api.Errno {
	if !hasValidVars(s) || !hasValidPreds(s) || !isValid(s.Type) {
		return api.ErrArg
	}
	size := Size(s.Type)
	for _, pred := range s.Preds {
		size += Size(pred.Type)
	}
	if size > api.MaxSize {
		return api.ErrArg
	}
	return api.OK
}

func hasValidVars(s api.Scheme) bool {
	bound := map[string]bool{}
	for _, v := range s.Vars {
		if !isVarName(v.Name) || bound[v.Name] || checkKind(v.Kind) != api.OK {
			return false
		}
		bound[v.Name] = true
	}
	return true
}

func hasValidPreds(s api.Scheme) bool {
	for _, pred := range s.Preds {
		if !isDeclaredName(pred.Class) || !isValid(pred.Type) {
			return false
		}
	}
	return true
}
