/-
  WALKS. The scanner's names and identifiers.
-/
import Derived.Test.YtakojceggpljoaaGreatDoorLNm
namespace Go.Proofs.YtakojceggpljoaaGreatDoor
open Go.RowKit Go.Maps
section
variable {W w : World} {b : Nat} {s : ByteArray} {i0 i : Nat} {tk : Value} {F : Flt}
theorem ext_size {s : ByteArray} {a e : Nat} (h1 : a ≤ e) (h2 : e ≤ s.size) : (s.extract a e).size = e - a := by simp; omega
theorem ext_ext {s : ByteArray} {a e : Nat} (h1 : a + 64 ≤ e) : (s.extract a e).extract 0 64 = s.extract a (a + 64) := by
  rw [ByteArray.extract_extract]; simp; congr 1; omega
set_option maxRecDepth 100000 in
set_option maxHeartbeats 2000000 in
theorem name_p (hQ : Q W w) (hWb : W.heap.size ≤ b) (hS : Scn w b s (pos s i0) (pos s i) tk F) (q : ByteArray) (fr : Nat) (hz : s.size ≤ 65536) (hif : i ≤ fr) (hfr : fr ≤ s.size) :
    Calls Tryz.prog 50 #[.pointer (some ⟨b, 0, none⟩), .string q, .int .i64 fr] w (TokPost w b s i0 tk F (nmR s i0 q fr)) := by
  have hSz := hS.lt
  have hR := RB.new w
  have hS0 := hS.alloc (.cells #[.int .i64 0, .string ⟨#[]⟩, .string ⟨#[]⟩, .int .i64 0, .bool false, .int .i64 0, .int .i64 0] 38)
  have hQ0 : Q W (w.alloc (.cells #[.int .i64 0, .string ⟨#[]⟩, .string ⟨#[]⟩, .int .i64 0, .bool false, .int .i64 0, .int .i64 0] 38)) := hQ.below ((Below.refl _ _).alloc (Nat.le_refl _) _)
  have c0 := hS0.src'
  have c4 := hS0.hat_p
  obtain ⟨hn1, hn2⟩ := nE_bd hfr
  obtain ⟨e, he⟩ : ∃ e, e = nE s fr := ⟨_, rfl⟩
  rw [← he] at hn1 hn2
  have hts := ext_size (s := s) hn1 hn2
  by_cases hlong : 64 < e - fr
  · have HX := Lib.hid (ext_ext (s := s) (a := fr) (e := e) (by omega))
    have HP : Hid (nmR s i0 q fr = .bad (flt s 3 (s.extract fr (fr + 64)) i0)) := Lib.hid (by unfold nmR; rw [← he, if_pos hlong])
    have HE := Lib.hid he
    obtain ⟨t, ht⟩ : ∃ t, s.extract fr e = t := ⟨_, rfl⟩
    rw [ht] at hts
    rw [HP.out]
    have HT := Lib.hid ht
    have ht64 : 64 < t.size := by omega
    clear ht he hts hlong
    go_enter Tryz.func50, Tryz.ntmps50
    go_wp2_with (first | (go_at_call 92; refine (NameAt_p _ _ _ hz hfr).mono ?_; rw [← HE.out, HT.out]; rintro r w2 ⟨rfl, hO2⟩; have hS2 := hS0.keep hO2) | (go_at_call 89; refine (fail_p hS2 3 _).mono ?_; rintro r w7 ⟨rfl, hB7, hO7⟩; have hO8 := Only.trans hO2.lift hO7; have hR7 := hR.only hO8 (by omega); have d0 := hR7.c0; have d1 := hR7.c1; have d2 := hR7.c2; have d3 := hR7.c3; have d4 := hR7.c4; have d5 := hR7.c5; have d6 := hR7.c6; have z0 := hR7.fz 0; have z1 := hR7.fz 1; have z2 := hR7.fz 2; have z3 := hR7.fz 3; have z4 := hR7.fz 4; have z5 := hR7.fz 5; have z6 := hR7.fz 6))
    exact bodyPost_ret (v := .tuple #[tkZ, .bool false]) (by simp [results, Tryz.results50, go_sem, d0, d1, d2, d3, d4, d5, d6]) rfl (tok_bad rfl rfl hSz (by rw [← HX.out, HT.out]; exact hB7) hO8 (Only.set7 _ _ _ _ _ _ _ _ _))
  · have HP : Hid (nmR s i0 q fr = .ok ⟨opo (cls (s.extract fr e)), q, s.extract fr e, 0⟩ e) := Lib.hid (by unfold nmR; rw [← he, if_neg hlong])
    have HE := Lib.hid he
    obtain ⟨t, ht⟩ : ∃ t, s.extract fr e = t := ⟨_, rfl⟩
    rw [ht] at hts
    rw [HP.out, ht]
    have HT := Lib.hid ht
    have ht64 : t.size ≤ 64 := by omega
    have HV : Hid ((fr : Int) + (t.size : Int) - (i : Int) = ((e - i : Nat) : Int)) := Lib.hid (by omega)
    have hie : i + (e - i) = e := by omega
    have HIE := Lib.hid hie
    have hie' : i + (e - i) ≤ s.size := by omega
    clear ht he hts hlong hie
    go_enter Tryz.func50, Tryz.ntmps50
    go_wp2_with (first | (go_at_call 92; refine (NameAt_p _ _ _ hz hfr).mono ?_; rw [← HE.out, HT.out]; rintro r w2 ⟨rfl, hO2⟩; have hS2 := hS0.keep hO2; have c2 := hS2.hat_p) | (go_at_call 39; rw [HV.out]; refine (skip_p hS2 (e - i) hz hie').mono ?_; rw [HIE.out]; rintro r w4 ⟨rfl, hS4, hO4⟩; have hQ4 := (hQ0.only hO2 (fun _ hc => hc.elim)).only hO4 (fun i hi => by rw [hi]; exact hWb)) | (go_at_call 72; refine (opOf_q _ _ _ (by omega) hQ4).mono ?_; rintro r w7 ⟨rfl, hQ7, hO7⟩; have hS7 := hS4.keep hO7; have hO8 := (Only.trans hO2.lift hO4).trans hO7.lift; have hR7 := hR.only hO8 (by omega); have d0 := hR7.c0; have d1 := hR7.c1; have d2 := hR7.c2; have d3 := hR7.c3; have d4 := hR7.c4; have d5 := hR7.c5; have d6 := hR7.c6; have z0 := hR7.fz 0; have z1 := hR7.fz 1; have z2 := hR7.fz 2; have z3 := hR7.fz 3; have z4 := hR7.fz 4; have z5 := hR7.fz 5; have z6 := hR7.fz 6))
    exact bodyPost_ret (v := .tuple #[tkC ⟨opo (cls t), q, t, 0⟩, .bool true]) (by simp [results, Tryz.results50, go_sem, nil8, d0, d1, d2, d3, d4, d5, d6]) rfl (tok_ok rfl rfl hSz hS7 hO8 (Only.set7 _ _ _ _ _ _ _ _ _))
end
end Go.Proofs.YtakojceggpljoaaGreatDoor
