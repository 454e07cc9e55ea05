/-
  WALKS. The law NamesRoundTrip.
-/
import Derived.Test.YtniejaachfhkdaaDoorAwake
import Derived.Test.YtniejaachfhkdaaDoorRoundP
namespace Go.Proofs.YtniejaachfhkdaaDoor
open Go.RowKit Go.Maps
theorem beq_self' (s : ByteArray) : (s.toList == s.toList) = true := by simp
theorem Base_v' (s : ByteArray) (v : Value) (W w : World) (hs : s.size ≤ 1000000) (h : basR (basO s) = v) (hq : Q W w) :
    Calls Tryd.prog 14 #[.string s] w fun e w' => e = .returned v ∧ Q W w' := h ▸ Base_q s W w hs hq
/-- All that the law asks of the pure functions. -/
structure RT (m s : ByteArray) (n : Int) (q g A B C : ByteArray) (k : Int) (qe ge ok is : Bool) (cn : Int) : Prop where
  hq : joinB m s = q
  hqe : q.toList.isEmpty = qe
  hqz : q.size ≤ 1000000
  hqm : qe = false → spM q = m
  hqn : qe = false → spN q = s
  hqs : qe = false → spl q.data.toList = true
  hqc : qe = false → cls q = 0
  hg : mkB s n = g
  hge : g.toList.isEmpty = ge
  hgz : g.size ≤ 1000000
  hgb : ge = false → basR (basO g) = .tuple #[.string s, .int .i64 n, .bool true]
  hgs : ge = false → spl g.data.toList = false
  hgc : ge = false → cls g = 7
  sm : spM s = A
  sn : spN s = B
  ss : spl s.data.toList = ok
  sb : basR (basO s) = .tuple #[.string C, .int .i64 k, .bool is]
  az : A.size ≤ 1000000
  bz : B.size ≤ 1000000
  cz : C.size ≤ 1000000
  k1 : k ≤ 9223372036854775807
  cl : cls s = cn
  okj : ok = true → joinB A B = s
  okc : ok = true → cn = 0
  oki : ok = true → is = false
  ism : is = true → mkB C k = s
  isc : is = true → cn = 7
  nom : ok = false → A = ⟨#[]⟩
  non : ok = false → B = ⟨#[]⟩
  nic : is = false → C = ⟨#[]⟩
  nik : is = false → k = 0
  ni7 : is = false → (cn == 7) = false
theorem spl_no {s : ByteArray} (h : spl s.data.toList = false) : spM s = ⟨#[]⟩ ∧ spN s = ⟨#[]⟩ := by
  constructor
  · unfold spM; rw [h]; rfl
  · unfold spN; rw [h]; rfl
set_option maxRecDepth 100000 in
set_option maxHeartbeats 2000000 in
theorem RT_ttq (m s : ByteArray) (n : Int) (q g A B C : ByteArray) (k : Int) (cn : Int) (W w : World) (hQ : Q W w) (hm : m.size ≤ 1000) (hs : s.size ≤ 1000) (hn1 : n ≤ 9223372036854775807) (h : RT m s n q g A B C k true true true false cn) :
    Calls Tryd.prog 4 #[.string m, .string s, .int .i64 n] w fun e w' => e = .returned (.bool true) ∧ Q W w' := by
  obtain rfl := h.nic rfl
  obtain rfl := h.nik rfl
  obtain rfl := h.okc rfl
  have hbm := beq_self' m
  have hbs := beq_self' s
  have hqe := h.hqe
  have hge := h.hge
  have hk1 := h.k1
  have e1 : decide (1000 < (m.size : Int)) = false := by simp; omega
  have e2 : decide (1000 < (s.size : Int)) = false := by simp; omega
  have nn : (n == n) = true := by simp
  go_enter Tryd.func4, Tryd.ntmps4
  go_wp2_with (first | (go_at_call 10; first | ((with_reducible refine (Join_v m s q _ _ (by omega) (by omega) h.hq (by assumption)).mono ?_); rintro e w1 ⟨rfl, hq1⟩) | ((with_reducible refine (Join_v A B s _ _ h.az h.bz (h.okj rfl) (by assumption)).mono ?_); rintro e w2 ⟨rfl, hq2⟩)) | (go_at_call 8; first | ((with_reducible refine (Split_v s _ _ _ _ _ (by omega) h.sm h.sn h.ss (by assumption)).mono ?_); rintro e w3 ⟨rfl, hq3⟩)) | (go_at_call 14; first | ((with_reducible refine (Base_v' s _ _ _ (by omega) h.sb (by assumption)).mono ?_); rintro e w6 ⟨rfl, hq6⟩)) | (go_at_call 12; first | ((with_reducible refine (Classify_v s _ _ _ (by omega) h.cl (by assumption)).mono ?_); rintro e w8 ⟨rfl, hq8⟩)) | (go_at_call 13; first | ((with_reducible refine (Made_v s g n _ _ (by omega) hn1 h.hg (by assumption)).mono ?_); rintro e w11 ⟨rfl, hq11⟩)) | (go_at_call 7; refine (awake_q _ _ (by assumption)).mono ?_; rintro e w13 ⟨rfl, hq13⟩))
  go_ret
  exact ⟨rfl, hq13⟩
set_option maxRecDepth 100000 in
set_option maxHeartbeats 2000000 in
theorem RT_ttm (m s : ByteArray) (n : Int) (q g A B C : ByteArray) (k : Int) (cn : Int) (W w : World) (hQ : Q W w) (hm : m.size ≤ 1000) (hs : s.size ≤ 1000) (hn1 : n ≤ 9223372036854775807) (h : RT m s n q g A B C k true true false true cn) :
    Calls Tryd.prog 4 #[.string m, .string s, .int .i64 n] w fun e w' => e = .returned (.bool true) ∧ Q W w' := by
  obtain rfl := h.nom rfl
  obtain rfl := h.non rfl
  obtain rfl := h.isc rfl
  have hbm := beq_self' m
  have hbs := beq_self' s
  have hqe := h.hqe
  have hge := h.hge
  have hk1 := h.k1
  have e1 : decide (1000 < (m.size : Int)) = false := by simp; omega
  have e2 : decide (1000 < (s.size : Int)) = false := by simp; omega
  have nn : (n == n) = true := by simp
  go_enter Tryd.func4, Tryd.ntmps4
  go_wp2_with (first | (go_at_call 10; first | ((with_reducible refine (Join_v m s q _ _ (by omega) (by omega) h.hq (by assumption)).mono ?_); rintro e w1 ⟨rfl, hq1⟩)) | (go_at_call 8; first | ((with_reducible refine (Split_v s _ _ _ _ _ (by omega) h.sm h.sn h.ss (by assumption)).mono ?_); rintro e w3 ⟨rfl, hq3⟩)) | (go_at_call 14; first | ((with_reducible refine (Base_v' s _ _ _ (by omega) h.sb (by assumption)).mono ?_); rintro e w6 ⟨rfl, hq6⟩)) | (go_at_call 12; first | ((with_reducible refine (Classify_v s _ _ _ (by omega) h.cl (by assumption)).mono ?_); rintro e w8 ⟨rfl, hq8⟩)) | (go_at_call 13; first | ((with_reducible refine (Made_v s g n _ _ (by omega) hn1 h.hg (by assumption)).mono ?_); rintro e w11 ⟨rfl, hq11⟩) | ((with_reducible refine (Made_v C s k _ _ h.cz hk1 (h.ism rfl) (by assumption)).mono ?_); rintro e w12 ⟨rfl, hq12⟩)) | (go_at_call 7; refine (awake_q _ _ (by assumption)).mono ?_; rintro e w13 ⟨rfl, hq13⟩))
  go_ret
  exact ⟨rfl, hq13⟩
set_option maxRecDepth 100000 in
set_option maxHeartbeats 2000000 in
theorem RT_ttn (m s : ByteArray) (n : Int) (q g A B C : ByteArray) (k : Int) (cn : Int) (W w : World) (hQ : Q W w) (hm : m.size ≤ 1000) (hs : s.size ≤ 1000) (hn1 : n ≤ 9223372036854775807) (h : RT m s n q g A B C k true true false false cn) :
    Calls Tryd.prog 4 #[.string m, .string s, .int .i64 n] w fun e w' => e = .returned (.bool true) ∧ Q W w' := by
  obtain rfl := h.nom rfl
  obtain rfl := h.non rfl
  obtain rfl := h.nic rfl
  obtain rfl := h.nik rfl
  have hc7 := h.ni7 rfl
  have hbm := beq_self' m
  have hbs := beq_self' s
  have hqe := h.hqe
  have hge := h.hge
  have hk1 := h.k1
  have e1 : decide (1000 < (m.size : Int)) = false := by simp; omega
  have e2 : decide (1000 < (s.size : Int)) = false := by simp; omega
  have nn : (n == n) = true := by simp
  go_enter Tryd.func4, Tryd.ntmps4
  go_wp2_with (first | (go_at_call 10; first | ((with_reducible refine (Join_v m s q _ _ (by omega) (by omega) h.hq (by assumption)).mono ?_); rintro e w1 ⟨rfl, hq1⟩)) | (go_at_call 8; first | ((with_reducible refine (Split_v s _ _ _ _ _ (by omega) h.sm h.sn h.ss (by assumption)).mono ?_); rintro e w3 ⟨rfl, hq3⟩)) | (go_at_call 14; first | ((with_reducible refine (Base_v' s _ _ _ (by omega) h.sb (by assumption)).mono ?_); rintro e w6 ⟨rfl, hq6⟩)) | (go_at_call 12; first | ((with_reducible refine (Classify_v s _ _ _ (by omega) h.cl (by assumption)).mono ?_); rintro e w8 ⟨rfl, hq8⟩)) | (go_at_call 13; first | ((with_reducible refine (Made_v s g n _ _ (by omega) hn1 h.hg (by assumption)).mono ?_); rintro e w11 ⟨rfl, hq11⟩)) | (go_at_call 7; refine (awake_q _ _ (by assumption)).mono ?_; rintro e w13 ⟨rfl, hq13⟩))
  go_ret
  exact ⟨rfl, hq13⟩
set_option maxRecDepth 100000 in
set_option maxHeartbeats 2000000 in
theorem RT_tfq (m s : ByteArray) (n : Int) (q g A B C : ByteArray) (k : Int) (cn : Int) (W w : World) (hQ : Q W w) (hm : m.size ≤ 1000) (hs : s.size ≤ 1000) (hn1 : n ≤ 9223372036854775807) (h : RT m s n q g A B C k true false true false cn) :
    Calls Tryd.prog 4 #[.string m, .string s, .int .i64 n] w fun e w' => e = .returned (.bool true) ∧ Q W w' := by
  obtain rfl := h.nic rfl
  obtain rfl := h.nik rfl
  obtain rfl := h.okc rfl
  have hbm := beq_self' m
  have hbs := beq_self' s
  have hqe := h.hqe
  have hge := h.hge
  have hk1 := h.k1
  have e1 : decide (1000 < (m.size : Int)) = false := by simp; omega
  have e2 : decide (1000 < (s.size : Int)) = false := by simp; omega
  have nn : (n == n) = true := by simp
  go_enter Tryd.func4, Tryd.ntmps4
  go_wp2_with (first | (go_at_call 10; first | ((with_reducible refine (Join_v m s q _ _ (by omega) (by omega) h.hq (by assumption)).mono ?_); rintro e w1 ⟨rfl, hq1⟩) | ((with_reducible refine (Join_v A B s _ _ h.az h.bz (h.okj rfl) (by assumption)).mono ?_); rintro e w2 ⟨rfl, hq2⟩)) | (go_at_call 8; first | ((with_reducible refine (Split_v s _ _ _ _ _ (by omega) h.sm h.sn h.ss (by assumption)).mono ?_); rintro e w3 ⟨rfl, hq3⟩) | ((with_reducible refine (Split_v g _ _ _ _ _ h.hgz (spl_no (h.hgs rfl)).1 (spl_no (h.hgs rfl)).2 (h.hgs rfl) (by assumption)).mono ?_); rintro e w5 ⟨rfl, hq5⟩)) | (go_at_call 14; first | ((with_reducible refine (Base_v' s _ _ _ (by omega) h.sb (by assumption)).mono ?_); rintro e w6 ⟨rfl, hq6⟩) | ((with_reducible refine (Base_v' g _ _ _ h.hgz (h.hgb rfl) (by assumption)).mono ?_); rintro e w7 ⟨rfl, hq7⟩)) | (go_at_call 12; first | ((with_reducible refine (Classify_v s _ _ _ (by omega) h.cl (by assumption)).mono ?_); rintro e w8 ⟨rfl, hq8⟩) | ((with_reducible refine (Classify_v g _ _ _ h.hgz (h.hgc rfl) (by assumption)).mono ?_); rintro e w10 ⟨rfl, hq10⟩)) | (go_at_call 13; first | ((with_reducible refine (Made_v s g n _ _ (by omega) hn1 h.hg (by assumption)).mono ?_); rintro e w11 ⟨rfl, hq11⟩)) | (go_at_call 7; refine (awake_q _ _ (by assumption)).mono ?_; rintro e w13 ⟨rfl, hq13⟩))
  go_ret
  exact ⟨rfl, hq13⟩
set_option maxRecDepth 100000 in
set_option maxHeartbeats 2000000 in
theorem RT_tfm (m s : ByteArray) (n : Int) (q g A B C : ByteArray) (k : Int) (cn : Int) (W w : World) (hQ : Q W w) (hm : m.size ≤ 1000) (hs : s.size ≤ 1000) (hn1 : n ≤ 9223372036854775807) (h : RT m s n q g A B C k true false false true cn) :
    Calls Tryd.prog 4 #[.string m, .string s, .int .i64 n] w fun e w' => e = .returned (.bool true) ∧ Q W w' := by
  obtain rfl := h.nom rfl
  obtain rfl := h.non rfl
  obtain rfl := h.isc rfl
  have hbm := beq_self' m
  have hbs := beq_self' s
  have hqe := h.hqe
  have hge := h.hge
  have hk1 := h.k1
  have e1 : decide (1000 < (m.size : Int)) = false := by simp; omega
  have e2 : decide (1000 < (s.size : Int)) = false := by simp; omega
  have nn : (n == n) = true := by simp
  go_enter Tryd.func4, Tryd.ntmps4
  go_wp2_with (first | (go_at_call 10; first | ((with_reducible refine (Join_v m s q _ _ (by omega) (by omega) h.hq (by assumption)).mono ?_); rintro e w1 ⟨rfl, hq1⟩)) | (go_at_call 8; first | ((with_reducible refine (Split_v s _ _ _ _ _ (by omega) h.sm h.sn h.ss (by assumption)).mono ?_); rintro e w3 ⟨rfl, hq3⟩) | ((with_reducible refine (Split_v g _ _ _ _ _ h.hgz (spl_no (h.hgs rfl)).1 (spl_no (h.hgs rfl)).2 (h.hgs rfl) (by assumption)).mono ?_); rintro e w5 ⟨rfl, hq5⟩)) | (go_at_call 14; first | ((with_reducible refine (Base_v' s _ _ _ (by omega) h.sb (by assumption)).mono ?_); rintro e w6 ⟨rfl, hq6⟩) | ((with_reducible refine (Base_v' g _ _ _ h.hgz (h.hgb rfl) (by assumption)).mono ?_); rintro e w7 ⟨rfl, hq7⟩)) | (go_at_call 12; first | ((with_reducible refine (Classify_v s _ _ _ (by omega) h.cl (by assumption)).mono ?_); rintro e w8 ⟨rfl, hq8⟩) | ((with_reducible refine (Classify_v g _ _ _ h.hgz (h.hgc rfl) (by assumption)).mono ?_); rintro e w10 ⟨rfl, hq10⟩)) | (go_at_call 13; first | ((with_reducible refine (Made_v s g n _ _ (by omega) hn1 h.hg (by assumption)).mono ?_); rintro e w11 ⟨rfl, hq11⟩) | ((with_reducible refine (Made_v C s k _ _ h.cz hk1 (h.ism rfl) (by assumption)).mono ?_); rintro e w12 ⟨rfl, hq12⟩)) | (go_at_call 7; refine (awake_q _ _ (by assumption)).mono ?_; rintro e w13 ⟨rfl, hq13⟩))
  go_ret
  exact ⟨rfl, hq13⟩
set_option maxRecDepth 100000 in
set_option maxHeartbeats 2000000 in
theorem RT_tfn (m s : ByteArray) (n : Int) (q g A B C : ByteArray) (k : Int) (cn : Int) (W w : World) (hQ : Q W w) (hm : m.size ≤ 1000) (hs : s.size ≤ 1000) (hn1 : n ≤ 9223372036854775807) (h : RT m s n q g A B C k true false false false cn) :
    Calls Tryd.prog 4 #[.string m, .string s, .int .i64 n] w fun e w' => e = .returned (.bool true) ∧ Q W w' := by
  obtain rfl := h.nom rfl
  obtain rfl := h.non rfl
  obtain rfl := h.nic rfl
  obtain rfl := h.nik rfl
  have hc7 := h.ni7 rfl
  have hbm := beq_self' m
  have hbs := beq_self' s
  have hqe := h.hqe
  have hge := h.hge
  have hk1 := h.k1
  have e1 : decide (1000 < (m.size : Int)) = false := by simp; omega
  have e2 : decide (1000 < (s.size : Int)) = false := by simp; omega
  have nn : (n == n) = true := by simp
  go_enter Tryd.func4, Tryd.ntmps4
  go_wp2_with (first | (go_at_call 10; first | ((with_reducible refine (Join_v m s q _ _ (by omega) (by omega) h.hq (by assumption)).mono ?_); rintro e w1 ⟨rfl, hq1⟩)) | (go_at_call 8; first | ((with_reducible refine (Split_v s _ _ _ _ _ (by omega) h.sm h.sn h.ss (by assumption)).mono ?_); rintro e w3 ⟨rfl, hq3⟩) | ((with_reducible refine (Split_v g _ _ _ _ _ h.hgz (spl_no (h.hgs rfl)).1 (spl_no (h.hgs rfl)).2 (h.hgs rfl) (by assumption)).mono ?_); rintro e w5 ⟨rfl, hq5⟩)) | (go_at_call 14; first | ((with_reducible refine (Base_v' s _ _ _ (by omega) h.sb (by assumption)).mono ?_); rintro e w6 ⟨rfl, hq6⟩) | ((with_reducible refine (Base_v' g _ _ _ h.hgz (h.hgb rfl) (by assumption)).mono ?_); rintro e w7 ⟨rfl, hq7⟩)) | (go_at_call 12; first | ((with_reducible refine (Classify_v s _ _ _ (by omega) h.cl (by assumption)).mono ?_); rintro e w8 ⟨rfl, hq8⟩) | ((with_reducible refine (Classify_v g _ _ _ h.hgz (h.hgc rfl) (by assumption)).mono ?_); rintro e w10 ⟨rfl, hq10⟩)) | (go_at_call 13; first | ((with_reducible refine (Made_v s g n _ _ (by omega) hn1 h.hg (by assumption)).mono ?_); rintro e w11 ⟨rfl, hq11⟩)) | (go_at_call 7; refine (awake_q _ _ (by assumption)).mono ?_; rintro e w13 ⟨rfl, hq13⟩))
  go_ret
  exact ⟨rfl, hq13⟩
set_option maxRecDepth 100000 in
set_option maxHeartbeats 2000000 in
theorem RT_ftq (m s : ByteArray) (n : Int) (q g A B C : ByteArray) (k : Int) (cn : Int) (W w : World) (hQ : Q W w) (hm : m.size ≤ 1000) (hs : s.size ≤ 1000) (hn1 : n ≤ 9223372036854775807) (h : RT m s n q g A B C k false true true false cn) :
    Calls Tryd.prog 4 #[.string m, .string s, .int .i64 n] w fun e w' => e = .returned (.bool true) ∧ Q W w' := by
  obtain rfl := h.nic rfl
  obtain rfl := h.nik rfl
  obtain rfl := h.okc rfl
  have hbm := beq_self' m
  have hbs := beq_self' s
  have hqe := h.hqe
  have hge := h.hge
  have hk1 := h.k1
  have e1 : decide (1000 < (m.size : Int)) = false := by simp; omega
  have e2 : decide (1000 < (s.size : Int)) = false := by simp; omega
  have nn : (n == n) = true := by simp
  go_enter Tryd.func4, Tryd.ntmps4
  go_wp2_with (first | (go_at_call 10; first | ((with_reducible refine (Join_v m s q _ _ (by omega) (by omega) h.hq (by assumption)).mono ?_); rintro e w1 ⟨rfl, hq1⟩) | ((with_reducible refine (Join_v A B s _ _ h.az h.bz (h.okj rfl) (by assumption)).mono ?_); rintro e w2 ⟨rfl, hq2⟩)) | (go_at_call 8; first | ((with_reducible refine (Split_v s _ _ _ _ _ (by omega) h.sm h.sn h.ss (by assumption)).mono ?_); rintro e w3 ⟨rfl, hq3⟩) | ((with_reducible refine (Split_v q _ _ _ _ _ h.hqz (h.hqm rfl) (h.hqn rfl) (h.hqs rfl) (by assumption)).mono ?_); rintro e w4 ⟨rfl, hq4⟩)) | (go_at_call 14; first | ((with_reducible refine (Base_v' s _ _ _ (by omega) h.sb (by assumption)).mono ?_); rintro e w6 ⟨rfl, hq6⟩)) | (go_at_call 12; first | ((with_reducible refine (Classify_v s _ _ _ (by omega) h.cl (by assumption)).mono ?_); rintro e w8 ⟨rfl, hq8⟩) | ((with_reducible refine (Classify_v q _ _ _ h.hqz (h.hqc rfl) (by assumption)).mono ?_); rintro e w9 ⟨rfl, hq9⟩)) | (go_at_call 13; first | ((with_reducible refine (Made_v s g n _ _ (by omega) hn1 h.hg (by assumption)).mono ?_); rintro e w11 ⟨rfl, hq11⟩)) | (go_at_call 7; refine (awake_q _ _ (by assumption)).mono ?_; rintro e w13 ⟨rfl, hq13⟩))
  go_ret
  exact ⟨rfl, hq13⟩
set_option maxRecDepth 100000 in
set_option maxHeartbeats 2000000 in
theorem RT_ftm (m s : ByteArray) (n : Int) (q g A B C : ByteArray) (k : Int) (cn : Int) (W w : World) (hQ : Q W w) (hm : m.size ≤ 1000) (hs : s.size ≤ 1000) (hn1 : n ≤ 9223372036854775807) (h : RT m s n q g A B C k false true false true cn) :
    Calls Tryd.prog 4 #[.string m, .string s, .int .i64 n] w fun e w' => e = .returned (.bool true) ∧ Q W w' := by
  obtain rfl := h.nom rfl
  obtain rfl := h.non rfl
  obtain rfl := h.isc rfl
  have hbm := beq_self' m
  have hbs := beq_self' s
  have hqe := h.hqe
  have hge := h.hge
  have hk1 := h.k1
  have e1 : decide (1000 < (m.size : Int)) = false := by simp; omega
  have e2 : decide (1000 < (s.size : Int)) = false := by simp; omega
  have nn : (n == n) = true := by simp
  go_enter Tryd.func4, Tryd.ntmps4
  go_wp2_with (first | (go_at_call 10; first | ((with_reducible refine (Join_v m s q _ _ (by omega) (by omega) h.hq (by assumption)).mono ?_); rintro e w1 ⟨rfl, hq1⟩)) | (go_at_call 8; first | ((with_reducible refine (Split_v s _ _ _ _ _ (by omega) h.sm h.sn h.ss (by assumption)).mono ?_); rintro e w3 ⟨rfl, hq3⟩) | ((with_reducible refine (Split_v q _ _ _ _ _ h.hqz (h.hqm rfl) (h.hqn rfl) (h.hqs rfl) (by assumption)).mono ?_); rintro e w4 ⟨rfl, hq4⟩)) | (go_at_call 14; first | ((with_reducible refine (Base_v' s _ _ _ (by omega) h.sb (by assumption)).mono ?_); rintro e w6 ⟨rfl, hq6⟩)) | (go_at_call 12; first | ((with_reducible refine (Classify_v s _ _ _ (by omega) h.cl (by assumption)).mono ?_); rintro e w8 ⟨rfl, hq8⟩) | ((with_reducible refine (Classify_v q _ _ _ h.hqz (h.hqc rfl) (by assumption)).mono ?_); rintro e w9 ⟨rfl, hq9⟩)) | (go_at_call 13; first | ((with_reducible refine (Made_v s g n _ _ (by omega) hn1 h.hg (by assumption)).mono ?_); rintro e w11 ⟨rfl, hq11⟩) | ((with_reducible refine (Made_v C s k _ _ h.cz hk1 (h.ism rfl) (by assumption)).mono ?_); rintro e w12 ⟨rfl, hq12⟩)) | (go_at_call 7; refine (awake_q _ _ (by assumption)).mono ?_; rintro e w13 ⟨rfl, hq13⟩))
  go_ret
  exact ⟨rfl, hq13⟩
set_option maxRecDepth 100000 in
set_option maxHeartbeats 2000000 in
theorem RT_ftn (m s : ByteArray) (n : Int) (q g A B C : ByteArray) (k : Int) (cn : Int) (W w : World) (hQ : Q W w) (hm : m.size ≤ 1000) (hs : s.size ≤ 1000) (hn1 : n ≤ 9223372036854775807) (h : RT m s n q g A B C k false true false false cn) :
    Calls Tryd.prog 4 #[.string m, .string s, .int .i64 n] w fun e w' => e = .returned (.bool true) ∧ Q W w' := by
  obtain rfl := h.nom rfl
  obtain rfl := h.non rfl
  obtain rfl := h.nic rfl
  obtain rfl := h.nik rfl
  have hc7 := h.ni7 rfl
  have hbm := beq_self' m
  have hbs := beq_self' s
  have hqe := h.hqe
  have hge := h.hge
  have hk1 := h.k1
  have e1 : decide (1000 < (m.size : Int)) = false := by simp; omega
  have e2 : decide (1000 < (s.size : Int)) = false := by simp; omega
  have nn : (n == n) = true := by simp
  go_enter Tryd.func4, Tryd.ntmps4
  go_wp2_with (first | (go_at_call 10; first | ((with_reducible refine (Join_v m s q _ _ (by omega) (by omega) h.hq (by assumption)).mono ?_); rintro e w1 ⟨rfl, hq1⟩)) | (go_at_call 8; first | ((with_reducible refine (Split_v s _ _ _ _ _ (by omega) h.sm h.sn h.ss (by assumption)).mono ?_); rintro e w3 ⟨rfl, hq3⟩) | ((with_reducible refine (Split_v q _ _ _ _ _ h.hqz (h.hqm rfl) (h.hqn rfl) (h.hqs rfl) (by assumption)).mono ?_); rintro e w4 ⟨rfl, hq4⟩)) | (go_at_call 14; first | ((with_reducible refine (Base_v' s _ _ _ (by omega) h.sb (by assumption)).mono ?_); rintro e w6 ⟨rfl, hq6⟩)) | (go_at_call 12; first | ((with_reducible refine (Classify_v s _ _ _ (by omega) h.cl (by assumption)).mono ?_); rintro e w8 ⟨rfl, hq8⟩) | ((with_reducible refine (Classify_v q _ _ _ h.hqz (h.hqc rfl) (by assumption)).mono ?_); rintro e w9 ⟨rfl, hq9⟩)) | (go_at_call 13; first | ((with_reducible refine (Made_v s g n _ _ (by omega) hn1 h.hg (by assumption)).mono ?_); rintro e w11 ⟨rfl, hq11⟩)) | (go_at_call 7; refine (awake_q _ _ (by assumption)).mono ?_; rintro e w13 ⟨rfl, hq13⟩))
  go_ret
  exact ⟨rfl, hq13⟩
set_option maxRecDepth 100000 in
set_option maxHeartbeats 2000000 in
theorem RT_ffq (m s : ByteArray) (n : Int) (q g A B C : ByteArray) (k : Int) (cn : Int) (W w : World) (hQ : Q W w) (hm : m.size ≤ 1000) (hs : s.size ≤ 1000) (hn1 : n ≤ 9223372036854775807) (h : RT m s n q g A B C k false false true false cn) :
    Calls Tryd.prog 4 #[.string m, .string s, .int .i64 n] w fun e w' => e = .returned (.bool true) ∧ Q W w' := by
  obtain rfl := h.nic rfl
  obtain rfl := h.nik rfl
  obtain rfl := h.okc rfl
  have hbm := beq_self' m
  have hbs := beq_self' s
  have hqe := h.hqe
  have hge := h.hge
  have hk1 := h.k1
  have e1 : decide (1000 < (m.size : Int)) = false := by simp; omega
  have e2 : decide (1000 < (s.size : Int)) = false := by simp; omega
  have nn : (n == n) = true := by simp
  go_enter Tryd.func4, Tryd.ntmps4
  go_wp2_with (first | (go_at_call 10; first | ((with_reducible refine (Join_v m s q _ _ (by omega) (by omega) h.hq (by assumption)).mono ?_); rintro e w1 ⟨rfl, hq1⟩) | ((with_reducible refine (Join_v A B s _ _ h.az h.bz (h.okj rfl) (by assumption)).mono ?_); rintro e w2 ⟨rfl, hq2⟩)) | (go_at_call 8; first | ((with_reducible refine (Split_v s _ _ _ _ _ (by omega) h.sm h.sn h.ss (by assumption)).mono ?_); rintro e w3 ⟨rfl, hq3⟩) | ((with_reducible refine (Split_v q _ _ _ _ _ h.hqz (h.hqm rfl) (h.hqn rfl) (h.hqs rfl) (by assumption)).mono ?_); rintro e w4 ⟨rfl, hq4⟩) | ((with_reducible refine (Split_v g _ _ _ _ _ h.hgz (spl_no (h.hgs rfl)).1 (spl_no (h.hgs rfl)).2 (h.hgs rfl) (by assumption)).mono ?_); rintro e w5 ⟨rfl, hq5⟩)) | (go_at_call 14; first | ((with_reducible refine (Base_v' s _ _ _ (by omega) h.sb (by assumption)).mono ?_); rintro e w6 ⟨rfl, hq6⟩) | ((with_reducible refine (Base_v' g _ _ _ h.hgz (h.hgb rfl) (by assumption)).mono ?_); rintro e w7 ⟨rfl, hq7⟩)) | (go_at_call 12; first | ((with_reducible refine (Classify_v s _ _ _ (by omega) h.cl (by assumption)).mono ?_); rintro e w8 ⟨rfl, hq8⟩) | ((with_reducible refine (Classify_v q _ _ _ h.hqz (h.hqc rfl) (by assumption)).mono ?_); rintro e w9 ⟨rfl, hq9⟩) | ((with_reducible refine (Classify_v g _ _ _ h.hgz (h.hgc rfl) (by assumption)).mono ?_); rintro e w10 ⟨rfl, hq10⟩)) | (go_at_call 13; first | ((with_reducible refine (Made_v s g n _ _ (by omega) hn1 h.hg (by assumption)).mono ?_); rintro e w11 ⟨rfl, hq11⟩)) | (go_at_call 7; refine (awake_q _ _ (by assumption)).mono ?_; rintro e w13 ⟨rfl, hq13⟩))
  go_ret
  exact ⟨rfl, hq13⟩
set_option maxRecDepth 100000 in
set_option maxHeartbeats 2000000 in
theorem RT_ffm (m s : ByteArray) (n : Int) (q g A B C : ByteArray) (k : Int) (cn : Int) (W w : World) (hQ : Q W w) (hm : m.size ≤ 1000) (hs : s.size ≤ 1000) (hn1 : n ≤ 9223372036854775807) (h : RT m s n q g A B C k false false false true cn) :
    Calls Tryd.prog 4 #[.string m, .string s, .int .i64 n] w fun e w' => e = .returned (.bool true) ∧ Q W w' := by
  obtain rfl := h.nom rfl
  obtain rfl := h.non rfl
  obtain rfl := h.isc rfl
  have hbm := beq_self' m
  have hbs := beq_self' s
  have hqe := h.hqe
  have hge := h.hge
  have hk1 := h.k1
  have e1 : decide (1000 < (m.size : Int)) = false := by simp; omega
  have e2 : decide (1000 < (s.size : Int)) = false := by simp; omega
  have nn : (n == n) = true := by simp
  go_enter Tryd.func4, Tryd.ntmps4
  go_wp2_with (first | (go_at_call 10; first | ((with_reducible refine (Join_v m s q _ _ (by omega) (by omega) h.hq (by assumption)).mono ?_); rintro e w1 ⟨rfl, hq1⟩)) | (go_at_call 8; first | ((with_reducible refine (Split_v s _ _ _ _ _ (by omega) h.sm h.sn h.ss (by assumption)).mono ?_); rintro e w3 ⟨rfl, hq3⟩) | ((with_reducible refine (Split_v q _ _ _ _ _ h.hqz (h.hqm rfl) (h.hqn rfl) (h.hqs rfl) (by assumption)).mono ?_); rintro e w4 ⟨rfl, hq4⟩) | ((with_reducible refine (Split_v g _ _ _ _ _ h.hgz (spl_no (h.hgs rfl)).1 (spl_no (h.hgs rfl)).2 (h.hgs rfl) (by assumption)).mono ?_); rintro e w5 ⟨rfl, hq5⟩)) | (go_at_call 14; first | ((with_reducible refine (Base_v' s _ _ _ (by omega) h.sb (by assumption)).mono ?_); rintro e w6 ⟨rfl, hq6⟩) | ((with_reducible refine (Base_v' g _ _ _ h.hgz (h.hgb rfl) (by assumption)).mono ?_); rintro e w7 ⟨rfl, hq7⟩)) | (go_at_call 12; first | ((with_reducible refine (Classify_v s _ _ _ (by omega) h.cl (by assumption)).mono ?_); rintro e w8 ⟨rfl, hq8⟩) | ((with_reducible refine (Classify_v q _ _ _ h.hqz (h.hqc rfl) (by assumption)).mono ?_); rintro e w9 ⟨rfl, hq9⟩) | ((with_reducible refine (Classify_v g _ _ _ h.hgz (h.hgc rfl) (by assumption)).mono ?_); rintro e w10 ⟨rfl, hq10⟩)) | (go_at_call 13; first | ((with_reducible refine (Made_v s g n _ _ (by omega) hn1 h.hg (by assumption)).mono ?_); rintro e w11 ⟨rfl, hq11⟩) | ((with_reducible refine (Made_v C s k _ _ h.cz hk1 (h.ism rfl) (by assumption)).mono ?_); rintro e w12 ⟨rfl, hq12⟩)) | (go_at_call 7; refine (awake_q _ _ (by assumption)).mono ?_; rintro e w13 ⟨rfl, hq13⟩))
  go_ret
  exact ⟨rfl, hq13⟩
set_option maxRecDepth 100000 in
set_option maxHeartbeats 2000000 in
theorem RT_ffn (m s : ByteArray) (n : Int) (q g A B C : ByteArray) (k : Int) (cn : Int) (W w : World) (hQ : Q W w) (hm : m.size ≤ 1000) (hs : s.size ≤ 1000) (hn1 : n ≤ 9223372036854775807) (h : RT m s n q g A B C k false false false false cn) :
    Calls Tryd.prog 4 #[.string m, .string s, .int .i64 n] w fun e w' => e = .returned (.bool true) ∧ Q W w' := by
  obtain rfl := h.nom rfl
  obtain rfl := h.non rfl
  obtain rfl := h.nic rfl
  obtain rfl := h.nik rfl
  have hc7 := h.ni7 rfl
  have hbm := beq_self' m
  have hbs := beq_self' s
  have hqe := h.hqe
  have hge := h.hge
  have hk1 := h.k1
  have e1 : decide (1000 < (m.size : Int)) = false := by simp; omega
  have e2 : decide (1000 < (s.size : Int)) = false := by simp; omega
  have nn : (n == n) = true := by simp
  go_enter Tryd.func4, Tryd.ntmps4
  go_wp2_with (first | (go_at_call 10; first | ((with_reducible refine (Join_v m s q _ _ (by omega) (by omega) h.hq (by assumption)).mono ?_); rintro e w1 ⟨rfl, hq1⟩)) | (go_at_call 8; first | ((with_reducible refine (Split_v s _ _ _ _ _ (by omega) h.sm h.sn h.ss (by assumption)).mono ?_); rintro e w3 ⟨rfl, hq3⟩) | ((with_reducible refine (Split_v q _ _ _ _ _ h.hqz (h.hqm rfl) (h.hqn rfl) (h.hqs rfl) (by assumption)).mono ?_); rintro e w4 ⟨rfl, hq4⟩) | ((with_reducible refine (Split_v g _ _ _ _ _ h.hgz (spl_no (h.hgs rfl)).1 (spl_no (h.hgs rfl)).2 (h.hgs rfl) (by assumption)).mono ?_); rintro e w5 ⟨rfl, hq5⟩)) | (go_at_call 14; first | ((with_reducible refine (Base_v' s _ _ _ (by omega) h.sb (by assumption)).mono ?_); rintro e w6 ⟨rfl, hq6⟩) | ((with_reducible refine (Base_v' g _ _ _ h.hgz (h.hgb rfl) (by assumption)).mono ?_); rintro e w7 ⟨rfl, hq7⟩)) | (go_at_call 12; first | ((with_reducible refine (Classify_v s _ _ _ (by omega) h.cl (by assumption)).mono ?_); rintro e w8 ⟨rfl, hq8⟩) | ((with_reducible refine (Classify_v q _ _ _ h.hqz (h.hqc rfl) (by assumption)).mono ?_); rintro e w9 ⟨rfl, hq9⟩) | ((with_reducible refine (Classify_v g _ _ _ h.hgz (h.hgc rfl) (by assumption)).mono ?_); rintro e w10 ⟨rfl, hq10⟩)) | (go_at_call 13; first | ((with_reducible refine (Made_v s g n _ _ (by omega) hn1 h.hg (by assumption)).mono ?_); rintro e w11 ⟨rfl, hq11⟩)) | (go_at_call 7; refine (awake_q _ _ (by assumption)).mono ?_; rintro e w13 ⟨rfl, hq13⟩))
  go_ret
  exact ⟨rfl, hq13⟩
theorem empty_ba : (⟨#[]⟩ : ByteArray).toList.isEmpty = true := by rw [Lib.toList_data]; rfl
/-- The facts about the first two questions. -/
theorem RT_join (m s : ByteArray) (hm : m.size ≤ 1000) (hs : s.size ≤ 1000) : ∃ (q : ByteArray) (qe : Bool), joinB m s = q ∧ q.toList.isEmpty = qe ∧ q.size ≤ 1000000 ∧ (qe = false → spM q = m) ∧ (qe = false → spN q = s) ∧ (qe = false → spl q.data.toList = true) ∧ (qe = false → cls q = 0) := by
  cases h : (con m.data.toList && named s.data.toList)
  · exact ⟨⟨#[]⟩, true, joinB_none h, empty_ba, by decide, (fun e => by cases e), (fun e => by cases e), (fun e => by cases e), (fun e => by cases e)⟩
  · have h' := h
    simp only [Bool.and_eq_true] at h'
    have hd : (m ++ ⟨#[46]⟩ ++ s).data.toList = m.data.toList ++ 46 :: s.data.toList := by rw [app_data, app_data, List.append_assoc]; rfl
    have hj := joinB_some h
    have hz : (m ++ ⟨#[46]⟩ ++ s).size ≤ 1000000 := by
      have h1 : (⟨#[46]⟩ : ByteArray).size = 1 := rfl
      rw [app_size, app_size, h1]; omega
    obtain ⟨q, hqd⟩ : ∃ q, q = m ++ ⟨#[46]⟩ ++ s := ⟨_, rfl⟩
    rw [← hqd] at hd hj hz
    obtain ⟨a1, a2, a3⟩ := qual_split h'.1 h'.2 hd
    rw [Lib.mk_data] at a2 a3
    have hc := qual_cls h'.1 h'.2 hd
    exact ⟨q, false, hj, by rw [Lib.toList_data, hd]; simp, hz, fun _ => a2, fun _ => a3, fun _ => a1, fun _ => hc⟩
theorem RT_made (s : ByteArray) (n : Int) (hs : s.size ≤ 1000) (h1 : n ≤ 9223372036854775807) : ∃ (g : ByteArray) (ge : Bool), mkB s n = g ∧ g.toList.isEmpty = ge ∧ g.size ≤ 1000000 ∧ (ge = false → basR (basO g) = .tuple #[.string s, .int .i64 n, .bool true]) ∧ (ge = false → spl g.data.toList = false) ∧ (ge = false → cls g = 7) := by
  by_cases h : n < 0 ∨ stem s.data.toList = false
  · exact ⟨⟨#[]⟩, true, by rw [mkB, if_pos h], empty_ba, by decide, (fun e => by cases e), (fun e => by cases e), (fun e => by cases e)⟩
  · have h0 : 0 ≤ n := by omega
    have hst : stem s.data.toList = true := by
      cases e : stem s.data.toList
      · exact absurd (.inr e) h
      · rfl
    have hd : (madeB s n).data.toList = s.data.toList ++ 36 :: Lib.itoa n := by unfold madeB; rw [app_data, app_data, List.append_assoc]; rfl
    have hb := basO_made h0 h1 hst hd
    have hc := (numOf_itoa n h0 h1).2
    refine ⟨madeB s n, false, by rw [mkB, if_neg h], ?_, ?_, fun _ => by rw [hb]; rfl, fun _ => by rw [hd]; exact made_not_qual hst hc, fun _ => cls_made hb⟩
    · rw [Lib.toList_data, hd]; simp
    · have := madeB_size s n (by omega) h1; omega
theorem cut_sizes (s : ByteArray) : (spM s).size ≤ s.size ∧ (spN s).size ≤ s.size := by
  have hc := cut_len s.data.toList
  rw [← Lib.size_eq] at hc
  have z : (⟨#[]⟩ : ByteArray).size = 0 := rfl
  constructor
  · unfold spM; split
    · rw [size_mk]; exact hc.1
    · rw [z]; omega
  · unfold spN; split
    · rw [size_mk]; exact hc.2
    · rw [z]; omega
set_option maxRecDepth 100000 in
set_option maxHeartbeats 1000000 in
theorem NamesRoundTrip_walk (m s : ByteArray) (n : Int) (W w : World) (hq : Q W w) (hm : m.size ≤ maxLen) (hs : s.size ≤ maxLen) (hn : (Lit.int .i64 n).wf = true) :
    Calls Tryd.prog 4 #[.string m, .string s, .int .i64 n] w fun e w' => e = .returned (.bool true) ∧ Q W w' := by
  unfold maxLen at hm hs
  have hn1 : -9223372036854775808 ≤ n ∧ n ≤ 9223372036854775807 := by simpa [Lit.wf, IntKind.min, IntKind.max, IntKind.signed, IntKind.bits] using hn
  obtain ⟨_, hn1⟩ := hn1
  clear hn
  by_cases hl : m.size ≤ 1000 ∧ s.size ≤ 1000
  · obtain ⟨z1, z2⟩ := hl
    obtain ⟨q, qe, q1, q2, q3, q4, q5, q6, q7⟩ := RT_join m s z1 z2
    obtain ⟨g, ge, g1, g2, g3, g4, g5, g6⟩ := RT_made s n z2 hn1
    have hz := cut_sizes s
    cases hsp : spl s.data.toList
    · cases hb : basO s with
      | none =>
        have h7 : (cls s == 7) = false := by
          cases e : (cls s == 7)
          · rfl
          · have := cls_seven (s := s) (by simpa using e)
            rw [hb] at this; cases this
        have hR : RT m s n q g ⟨#[]⟩ ⟨#[]⟩ ⟨#[]⟩ 0 qe ge false false (cls s) :=
          { hq := q1, hqe := q2, hqz := q3, hqm := q4, hqn := q5, hqs := q6, hqc := q7, hg := g1, hge := g2, hgz := g3, hgb := g4, hgs := g5, hgc := g6,
            sm := (spl_no hsp).1, sn := (spl_no hsp).2, ss := hsp, sb := by rw [hb]; rfl, az := by decide, bz := by decide, cz := by decide, k1 := by omega, cl := rfl,
            okj := (fun e => by cases e), okc := (fun e => by cases e), oki := (fun e => by cases e), ism := (fun e => by cases e), isc := (fun e => by cases e),
            nom := fun _ => rfl, non := fun _ => rfl, nic := fun _ => rfl, nik := fun _ => rfl, ni7 := fun _ => h7 }
        cases qe <;> cases ge
        · exact RT_ffn m s n q g _ _ _ _ _ W w hq z1 z2 hn1 hR
        · exact RT_ftn m s n q g _ _ _ _ _ W w hq z1 z2 hn1 hR
        · exact RT_tfn m s n q g _ _ _ _ _ W w hq z1 z2 hn1 hR
        · exact RT_ttn m s n q g _ _ _ _ _ W w hq z1 z2 hn1 hR
      | some p =>
        obtain ⟨b, k⟩ := p
        obtain ⟨d, e1, e2, e3, e4, e5, e6⟩ := basO_some hb
        have hbz : b.size ≤ s.size := by
          have := congrArg List.length e1
          rw [← Lib.size_eq, List.length_append, ← Lib.size_eq] at this
          omega
        have hmk : mkB b k = s := by
          rw [mkB, if_neg (by rw [e2]; simp; omega)]
          have : (madeB b k).data.toList = s.data.toList := by
            unfold madeB; rw [app_data, app_data, List.append_assoc, e1, e4]; rfl
          rw [← Lib.mk_data (madeB b k), this, Lib.mk_data s]
        have hR : RT m s n q g ⟨#[]⟩ ⟨#[]⟩ b k qe ge false true 7 :=
          { hq := q1, hqe := q2, hqz := q3, hqm := q4, hqn := q5, hqs := q6, hqc := q7, hg := g1, hge := g2, hgz := g3, hgb := g4, hgs := g5, hgc := g6,
            sm := (spl_no hsp).1, sn := (spl_no hsp).2, ss := hsp, sb := by rw [hb]; rfl, az := by decide, bz := by decide, cz := by omega, k1 := e6, cl := cls_made hb,
            okj := (fun e => by cases e), okc := (fun e => by cases e), oki := (fun e => by cases e), ism := fun _ => hmk, isc := fun _ => rfl,
            nom := fun _ => rfl, non := fun _ => rfl, nic := (fun e => by cases e), nik := (fun e => by cases e), ni7 := (fun e => by cases e) }
        cases qe <;> cases ge
        · exact RT_ffm m s n q g _ _ _ _ _ W w hq z1 z2 hn1 hR
        · exact RT_ftm m s n q g _ _ _ _ _ W w hq z1 z2 hn1 hR
        · exact RT_tfm m s n q g _ _ _ _ _ W w hq z1 z2 hn1 hR
        · exact RT_ttm m s n q g _ _ _ _ _ W w hq z1 z2 hn1 hR
    · obtain ⟨e, hc1, hc2⟩ := spl_parts hsp
      have e' : s.data.toList = (Lib.cut s.data.toList [46]).1 ++ 46 :: (Lib.cut s.data.toList [46]).2.1 := by
        conv => lhs; rw [e]
        simp
      have hb := qual_not_made hc1 hc2 e'
      have hj : joinB (spM s) (spN s) = s := by
        have a1 : spM s = ⟨(Lib.cut s.data.toList [46]).1.toArray⟩ := by unfold spM; rw [hsp]; rfl
        have a2 : spN s = ⟨(Lib.cut s.data.toList [46]).2.1.toArray⟩ := by unfold spN; rw [hsp]; rfl
        rw [a1, a2, joinB_some (by simp [hc1, hc2])]
        have : ((⟨(Lib.cut s.data.toList [46]).1.toArray⟩ : ByteArray) ++ ⟨#[46]⟩ ++ ⟨(Lib.cut s.data.toList [46]).2.1.toArray⟩).data.toList = s.data.toList := by
          rw [app_data, app_data]
          exact e.symm
        rw [← Lib.mk_data (_ ++ _ ++ _), this, Lib.mk_data s]
      have hR : RT m s n q g (spM s) (spN s) ⟨#[]⟩ 0 qe ge true false 0 :=
        { hq := q1, hqe := q2, hqz := q3, hqm := q4, hqn := q5, hqs := q6, hqc := q7, hg := g1, hge := g2, hgz := g3, hgb := g4, hgs := g5, hgc := g6,
          sm := rfl, sn := rfl, ss := hsp, sb := by rw [hb]; rfl, az := by omega, bz := by omega, cz := by decide, k1 := by omega, cl := qual_cls hc1 hc2 e',
          okj := fun _ => hj, okc := fun _ => rfl, oki := fun _ => rfl, ism := (fun e => by cases e), isc := (fun e => by cases e),
          nom := (fun e => by cases e), non := (fun e => by cases e), nic := fun _ => rfl, nik := fun _ => rfl, ni7 := fun _ => rfl }
      cases qe <;> cases ge
      · exact RT_ffq m s n q g _ _ _ _ _ W w hq z1 z2 hn1 hR
      · exact RT_ftq m s n q g _ _ _ _ _ W w hq z1 z2 hn1 hR
      · exact RT_tfq m s n q g _ _ _ _ _ W w hq z1 z2 hn1 hR
      · exact RT_ttq m s n q g _ _ _ _ _ W w hq z1 z2 hn1 hR
  · have h4 : (1000 : Int) < m.size ∨ ((m.size : Int) ≤ 1000 ∧ (1000 : Int) < s.size) := by omega
    clear hl
    rcases h4 with h4 | ⟨h4, h5⟩
    all_goals
      go_enter Tryd.func4, Tryd.ntmps4
      go_wp2_with (first | (go_at_call 7; refine (awake_q _ _ hq).mono ?_; rintro e w5 ⟨rfl, hq5⟩))
      go_ret
      exact ⟨rfl, hq5⟩
end Go.Proofs.YtniejaachfhkdaaDoor
