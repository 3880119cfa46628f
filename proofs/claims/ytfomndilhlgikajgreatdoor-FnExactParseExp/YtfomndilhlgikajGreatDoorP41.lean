import Derived.Test.YtfomndilhlgikajGreatDoorP18
set_option maxHeartbeats 8000000
set_option maxRecDepth 100000
namespace Go.Proofs.YtfomndilhlgikajGreatDoor
open Go.ChangeShapes Go.WideShapes Go.ChangeAt Go.RowKit
def opsL : List ByteArray := [⟨#[43]⟩, ⟨#[45]⟩, ⟨#[42]⟩, ⟨#[61, 61]⟩, ⟨#[60]⟩]
theorem yz : opsL.map ByteArray.toList = [[43], [45], [42], [61, 61], [60]] := by kernel_rfl
theorem DZ (s : ByteArray) : (opsL.any fun t => t.toList == s.toList) = Aw s := by
 have h : (opsL.any fun t => t.toList == s.toList) = ((opsL.map ByteArray.toList).any fun t => t == s.toList) := by rw [List.any_map]; rfl
 rw [h, yz]
 simp only [List.any_cons, List.any_nil, Bool.or_false, Aw]
 rw [fw [43], fw [45], fw [42], fw [61, 61], fw [60]]
 cases (s.toList == [43]) <;> cases (s.toList == [45]) <;> cases (s.toList == [42]) <;> cases (s.toList == [61, 61]) <;> rfl
theorem Ay (s : ByteArray) (w : World) : Calls Tryz.prog 206 #[.string s] w fun e w' => e = .returned (.bool (Aw s)) /\ Below w.heap.size w w' := by
 go_enter Tryz.func206, Tryz.ntmps206
 go_wp2_with fail
 refine (oC opsL _ 5 rfl (by decide) s _ ?_).mono ?_
 ·intro i hi
  match i, hi with
  | 0, _ | 1, _ | 2, _ | 3, _ | 4, _ => simp [opsL]
 rintro e w1 ⟨rfl, rfl⟩
 rw [DZ]
 go_wp2
 go_ret
 exact ⟨rfl, (U4 w).alloc U0 _⟩
theorem bq (k : Int) (w : World) : Calls Tryz.prog 205 #[.int .i64 k] w fun e w' => e = .returned (.int .i64 (dk k)) /\ w' = w := by
 by_cases hk : k = 1 \/ k = 2 \/ k = 3 \/ k = 4 \/ k = 5 \/ k = 6 \/ k = 7 \/ k = 8 \/ k = 9
 ·rcases hk with rfl | rfl | rfl | rfl | rfl | rfl | rfl | rfl | rfl
  all_goals
   go_enter Tryz.func205, Tryz.ntmps205
   go_wp2
   go_ret
   exact ⟨rfl, rfl⟩
 ·have h1 : ¬ k = 1 := by omega
  have h2 : ¬ k = 2 := by omega
  have h3 : ¬ k = 3 := by omega
  have h4 : ¬ k = 4 := by omega
  have h5 : ¬ k = 5 := by omega
  have h6 : ¬ k = 6 := by omega
  have h7 : ¬ k = 7 := by omega
  have h8 : ¬ k = 8 := by omega
  have h9 : ¬ k = 9 := by omega
  have HP : Hid (dk k = -1) := by simp [Hid, dk, h1, h2, h3, h4, h5, h6, h7, h8, h9]
  clear hk
  go_enter Tryz.func205, Tryz.ntmps205
  go_wp2
  go_ret
  exact ⟨by rw [HP.out]; rfl, rfl⟩
theorem qP {K : Nat -> Prop} {w : World} {h : Nat} {x : Tr} {cs : List Value} (hr : (reads K w h).al x cs) :
 Calls Tryz.prog 151 #[.agg cs.toArray] w fun e w' => e = .returned (.bool (dY x)) /\ Below w.heap.size w w' := by
 cases h with
 | zero => exact hr.elim
 | succ h =>
 obtain ⟨-, -, -, -, y, o1, c1, ce, -, rfl, hs, hl, q1, hce, -⟩ := hr
 obtain ⟨a0, a1, a2, a3, a4, a5, rfl⟩ := six hce
 simp only [List.cons_append, List.nil_append]
 have Q1 := aa q1
 have HL := aa hl
 have HS := aa hs
 have iT : x.ss.length <= 9223372036854775807 := hl.1
 clear q1 hl hs hce
 have aF : Hid ((w.alloc (.cells #[.string x.s, .slice o1 x.ss.length c1, a0, a1, a2, a3, a4, a5] 142)).heap[w.heap.size]? = some (.cells #[.string x.s, .slice o1 x.ss.length c1, a0, a1, a2, a3, a4, a5] 142 (0, 0))) := heap_alloc_new w _
 have aq : Hid (Below w.heap.size w (w.alloc (.cells #[.string x.s, .slice o1 x.ss.length c1, a0, a1, a2, a3, a4, a5] 142))) := (U4 w).alloc U0 _
 have step : ∀ v, eG x.ss = v -> ∀ g, Do x.s = g -> ∀ m, dX x.s = m -> Calls Tryz.prog 151 #[.agg #[.string x.s, .slice o1 x.ss.length c1, a0, a1, a2, a3, a4, a5]] w fun e w' => e = .returned (.bool (dY x)) /\ Below w.heap.size w w' := by
  intro v hv g hg m hm
  have HV := aa hv
  have HG : Hid (hU x.s.data.toList = g) := hg
  have jo : (x.s.toList == []) = m := hm
  have HM := aa hm
  have HA : Hid (dY x = (v && (g || (m && decide ((x.ss.length : Int) = 1))))) := by
   show dY x = _
   unfold dY
   rw [hv, hg, hm]
  clear hv hg hm
  cases v <;> cases g <;> cases m
  all_goals
   go_enter Tryz.func151, Tryz.ntmps151
   go_wp2_with fail
   refine (pV x.ss o1 c1 _ HL.out.1 HL.out.2 (Q1.out.later aq.out fun _ _ h => h)).mono ?_
   rintro e w1 ⟨rfl, hb⟩
   have aR := aa (aq.out.trans (hb.mono aq.out.size))
   have aK := aa ((hb.block w.heap.size (ad aF.out)).trans aF.out)
   rw [HV.out]
   clear hb
   have OB := cell_of aK.out 0
   have I6 := cell_of aK.out 1
   simp only [U7, U8, U9] at OB I6
   first
    | (go_wp2; go_ret; exact ⟨ah (by rw [HA.out]; rfl), aR.out⟩)
    | (go_wp2_with fail
       refine (ga _ _ HS.out).mono ?_
       rintro e w2 ⟨rfl, rfl⟩
       rw [HG.out]
       go_wp2
       go_ret
       exact ⟨ah (by rw [HA.out]; first | rfl | simp), aR.out⟩)
 exact step _ rfl _ rfl _ rfl
theorem ag {W : World} {g : Nat} {cur : Array Value} {e : TypeId} {j : Nat} {v : Value} (hx : W.heap[g]? = some (.cells cur e (0, 0))) (hv : cur[j]? = some v) : ∀ q : Later W, q.w.cell? ⟨g, j, none⟩ = some v := fun q =>
 (q.h.cell (p := ⟨g, j, none⟩) (ad hx)).trans ((cell_of hx j).trans hv)
theorem oW {K : Nat -> Prop} {w : World} {h : Nat} {x : Tr} {cs : List Value} (hr : (reads K w h).ex x cs) :
 Calls Tryz.prog 150 #[.agg cs.toArray] w fun e w' => e = .returned (.bool (aH x)) /\ Below w.heap.size w w' := by
 cases h with
 | zero => exact hr.elim
 | succ h =>
 obtain ⟨-, o1, c1, o2, c2, o3, c3, rfl, hs, hl, hd, ha, -⟩ := hr
 have HS := aa hs
 have iT : x.l.length <= 9223372036854775807 := hl.1
 have JV : x.ds.length <= 9223372036854775807 := hd.1
 have Og : x.al.length <= 9223372036854775807 := ha.1
 clear hs hl hd ha
 have aq : Hid (Below w.heap.size w (w.alloc (.cells #[.int .i64 x.k, .string x.s, .int .i64 x.n, .slice o1 x.l.length c1, .slice o2 x.ds.length c2, .slice o3 x.al.length c3] 34))) := (U4 w).alloc U0 _
 have aF : Hid ((w.alloc (.cells #[.int .i64 x.k, .string x.s, .int .i64 x.n, .slice o1 x.l.length c1, .slice o2 x.ds.length c2, .slice o3 x.al.length c3] 34)).heap[w.heap.size]? = some (.cells #[.int .i64 x.k, .string x.s, .int .i64 x.n, .slice o1 x.l.length c1, .slice o2 x.ds.length c2, .slice o3 x.al.length c3] 34 (0, 0))) := heap_alloc_new w _
 by_cases hA : dk x.k = x.l.length
 case neg =>
  have Kn : (dk x.k != (x.l.length : Int)) = true := by simpa using hA
  have HA := aa hA
  clear hA
  have HF : Hid (aH x = false) := by
   show aH x = false
   simp [aH, bw, HA.out]
  go_enter Tryz.func150, Tryz.ntmps150
  go_wp2_with fail
  generalize (w.alloc (.cells #[.int .i64 x.k, .string x.s, .int .i64 x.n, .slice o1 x.l.length c1, .slice o2 x.ds.length c2, .slice o3 x.al.length c3] 34)) = W at aF aq ⊢
  have ot := ag (j := 0) aF.out rfl
  have io := ag (j := 1) aF.out rfl
  have fH := ag (j := 2) aF.out rfl
  have iv := ag (j := 3) aF.out rfl
  have l0 := ag (j := 4) aF.out rfl
  have vh := ag (j := 5) aF.out rfl
  have jl : Nonempty (Later W) := ax W
  refine av (S := fun v => Below W.heap.size W v) (by kernel_rfl) (by kernel_rfl) (aS _) ?_
  repeat (first | go_big_quiet_skip | (go_big_quiet_want; go_big_quiet_op; first | go_big_quiet_on | (apply Exists.intro; refine ⟨fun q => ?_, ?_⟩; (go_at_call 205; refine (bq _ _).mono ?_; rintro e w1 ⟨rfl, rfl⟩; exact ⟨rfl, q, rfl⟩); go_big_quiet_on)))
  refine wpQuiet_nil ?_
  intro _ hw'
  obtain ⟨q, rfl⟩ := hw'
  go_wp2
  go_ret
  exact ⟨ah HF.out.symm, aq.out.trans (q.h.mono aq.out.size)⟩
 have Kn : (dk x.k != (x.l.length : Int)) = false := by simpa using hA
 have FD : Hid (decide (dk x.k = x.l.length) = true) := decide_eq_true hA
 have HA := aa hA
 clear hA
 by_cases hk : x.k = 6
 ·have aL : (x.k == 6) = true := by simpa using hk
  have wH : (x.k != 6) = false := by simpa using hk
  have lq : (x.k == 1) = false := by rw [hk]; rfl
  have Cm : (x.k != 1) = true := by rw [hk]; rfl
  have zm : (x.k == 2) = false := by rw [hk]; rfl
  have Cv : (x.k != 2) = true := by rw [hk]; rfl
  have th : (x.k == 3) = false := by rw [hk]; rfl
  have Ch : (x.k != 3) = true := by rw [hk]; rfl
  have lw : (x.k == 5) = false := by rw [hk]; rfl
  have Cp : (x.k != 5) = true := by rw [hk]; rfl
  have Ce : (x.k == 7) = false := by rw [hk]; rfl
  have Cc : (x.k != 7) = true := by rw [hk]; rfl
  have J1 : (x.k == 9) = false := by rw [hk]; rfl
  have CC : (x.k != 9) = true := by rw [hk]; rfl
  have HK := aa hk
  clear hk
  by_cases hE : x.al.length = 0
  case neg =>
   have Fw : decide (0 < x.al.length) = true := decide_eq_true (by omega)
   have uV := aa hE
   clear hE
   have HF : Hid (aH x = false) := by
    show aH x = false
    simp [aH, bw, uV.out, HK.out]
   go_enter Tryz.func150, Tryz.ntmps150
   go_wp2_with fail
   generalize (w.alloc (.cells #[.int .i64 x.k, .string x.s, .int .i64 x.n, .slice o1 x.l.length c1, .slice o2 x.ds.length c2, .slice o3 x.al.length c3] 34)) = W at aF aq ⊢
   have ot := ag (j := 0) aF.out rfl
   have io := ag (j := 1) aF.out rfl
   have fH := ag (j := 2) aF.out rfl
   have iv := ag (j := 3) aF.out rfl
   have l0 := ag (j := 4) aF.out rfl
   have vh := ag (j := 5) aF.out rfl
   have jl : Nonempty (Later W) := ax W
   refine av (S := fun v => Below W.heap.size W v) (by kernel_rfl) (by kernel_rfl) (aS _) ?_
   repeat (first | go_big_quiet_skip | (go_big_quiet_want; go_big_quiet_op; first | go_big_quiet_on | (apply Exists.intro; refine ⟨fun q => ?_, ?_⟩; (go_at_call 205; refine (bq _ _).mono ?_; rintro e w1 ⟨rfl, rfl⟩; exact ⟨rfl, q, rfl⟩); go_big_quiet_on)))
   refine wpQuiet_nil ?_
   intro _ hw'
   obtain ⟨q, rfl⟩ := hw'
   go_wp2
   go_ret
   exact ⟨ah HF.out.symm, aq.out.trans (q.h.mono aq.out.size)⟩
  have Fw : decide (0 < x.al.length) = false := decide_eq_false (by omega)
  have uV := aa hE
  clear hE
  by_cases hN : x.n = 0
  case neg =>
   have Dc : (x.n != 0) = true := by simpa using hN
   have wS := aa hN
   clear hN
   have HF : Hid (aH x = false) := by
    show aH x = false
    simp [aH, bw, uV.out, wS.out, HK.out]
   go_enter Tryz.func150, Tryz.ntmps150
   go_wp2_with fail
   generalize (w.alloc (.cells #[.int .i64 x.k, .string x.s, .int .i64 x.n, .slice o1 x.l.length c1, .slice o2 x.ds.length c2, .slice o3 x.al.length c3] 34)) = W at aF aq ⊢
   have ot := ag (j := 0) aF.out rfl
   have io := ag (j := 1) aF.out rfl
   have fH := ag (j := 2) aF.out rfl
   have iv := ag (j := 3) aF.out rfl
   have l0 := ag (j := 4) aF.out rfl
   have vh := ag (j := 5) aF.out rfl
   have jl : Nonempty (Later W) := ax W
   refine av (S := fun v => Below W.heap.size W v) (by kernel_rfl) (by kernel_rfl) (aS _) ?_
   repeat (first | go_big_quiet_skip | (go_big_quiet_want; go_big_quiet_op; first | go_big_quiet_on | (apply Exists.intro; refine ⟨fun q => ?_, ?_⟩; (go_at_call 205; refine (bq _ _).mono ?_; rintro e w1 ⟨rfl, rfl⟩; exact ⟨rfl, q, rfl⟩); go_big_quiet_on)))
   refine wpQuiet_nil ?_
   intro _ hw'
   obtain ⟨q, rfl⟩ := hw'
   go_wp2
   go_ret
   exact ⟨ah HF.out.symm, aq.out.trans (q.h.mono aq.out.size)⟩
  have Dc : (x.n != 0) = false := by simpa using hN
  have wS := aa hN
  clear hN
  have HH : Hid (aH x = co x) := by
   show aH x = co x
   have : bw x = true := by
    unfold bw
    rw [FD.out]
    simp [uV.out, wS.out, HK.out]
   simp [aH, this]
  go_enter Tryz.func150, Tryz.ntmps150
  go_wp2_with fail
  generalize (w.alloc (.cells #[.int .i64 x.k, .string x.s, .int .i64 x.n, .slice o1 x.l.length c1, .slice o2 x.ds.length c2, .slice o3 x.al.length c3] 34)) = W at aF aq ⊢
  have ot := ag (j := 0) aF.out rfl
  have io := ag (j := 1) aF.out rfl
  have fH := ag (j := 2) aF.out rfl
  have iv := ag (j := 3) aF.out rfl
  have l0 := ag (j := 4) aF.out rfl
  have vh := ag (j := 5) aF.out rfl
  have jl : Nonempty (Later W) := ax W
  refine av (S := fun v => Below W.heap.size W v) (by kernel_rfl) (by kernel_rfl) (aS _) ?_
  repeat (first | go_big_quiet_skip | (go_big_quiet_want; go_big_quiet_op; first | go_big_quiet_on | (apply Exists.intro; refine ⟨fun q => ?_, ?_⟩; (go_at_call 205; refine (bq _ _).mono ?_; rintro e w1 ⟨rfl, rfl⟩; exact ⟨rfl, q, rfl⟩); go_big_quiet_on)))
  refine wpQuiet_nil ?_
  intro _ hw'
  obtain ⟨q, rfl⟩ := hw'
  go_wp2
  go_ret
  exact ⟨ah (by rw [HH.out]; simp [co, HK.out, dX]), aq.out.trans (q.h.mono aq.out.size)⟩
 have SX : (x.k == 6) = false := by simpa using hk
 have Ry : (x.k != 6) = true := by simpa using hk
 have nX := aa hk
 clear hk
 by_cases hk : x.k = 7
 ·have aL : (x.k == 7) = true := by simpa using hk
  have wH : (x.k != 7) = false := by simpa using hk
  have lq : (x.k == 1) = false := by rw [hk]; rfl
  have Cm : (x.k != 1) = true := by rw [hk]; rfl
  have zm : (x.k == 2) = false := by rw [hk]; rfl
  have Cv : (x.k != 2) = true := by rw [hk]; rfl
  have th : (x.k == 3) = false := by rw [hk]; rfl
  have Ch : (x.k != 3) = true := by rw [hk]; rfl
  have lw : (x.k == 5) = false := by rw [hk]; rfl
  have Cp : (x.k != 5) = true := by rw [hk]; rfl
  have Ln : (x.k == 6) = false := by rw [hk]; rfl
  have BY : (x.k != 6) = true := by rw [hk]; rfl
  have J1 : (x.k == 9) = false := by rw [hk]; rfl
  have CC : (x.k != 9) = true := by rw [hk]; rfl
  have HK := aa hk
  clear hk
  by_cases hD : x.ds.length = 0
  case neg =>
   have Kv : decide (0 < x.ds.length) = true := decide_eq_true (by omega)
   have sV := aa hD
   clear hD
   have HF : Hid (aH x = false) := by
    show aH x = false
    simp [aH, bw, sV.out, HK.out]
   go_enter Tryz.func150, Tryz.ntmps150
   go_wp2_with fail
   generalize (w.alloc (.cells #[.int .i64 x.k, .string x.s, .int .i64 x.n, .slice o1 x.l.length c1, .slice o2 x.ds.length c2, .slice o3 x.al.length c3] 34)) = W at aF aq ⊢
   have ot := ag (j := 0) aF.out rfl
   have io := ag (j := 1) aF.out rfl
   have fH := ag (j := 2) aF.out rfl
   have iv := ag (j := 3) aF.out rfl
   have l0 := ag (j := 4) aF.out rfl
   have vh := ag (j := 5) aF.out rfl
   have jl : Nonempty (Later W) := ax W
   refine av (S := fun v => Below W.heap.size W v) (by kernel_rfl) (by kernel_rfl) (aS _) ?_
   repeat (first | go_big_quiet_skip | (go_big_quiet_want; go_big_quiet_op; first | go_big_quiet_on | (apply Exists.intro; refine ⟨fun q => ?_, ?_⟩; (go_at_call 205; refine (bq _ _).mono ?_; rintro e w1 ⟨rfl, rfl⟩; exact ⟨rfl, q, rfl⟩); go_big_quiet_on)))
   refine wpQuiet_nil ?_
   intro _ hw'
   obtain ⟨q, rfl⟩ := hw'
   go_wp2
   go_ret
   exact ⟨ah HF.out.symm, aq.out.trans (q.h.mono aq.out.size)⟩
  have Kv : decide (0 < x.ds.length) = false := decide_eq_false (by omega)
  have sV := aa hD
  clear hD
  by_cases hN : x.n = 0
  case neg =>
   have Dc : (x.n != 0) = true := by simpa using hN
   have wS := aa hN
   clear hN
   have HF : Hid (aH x = false) := by
    show aH x = false
    simp [aH, bw, sV.out, wS.out, HK.out]
   go_enter Tryz.func150, Tryz.ntmps150
   go_wp2_with fail
   generalize (w.alloc (.cells #[.int .i64 x.k, .string x.s, .int .i64 x.n, .slice o1 x.l.length c1, .slice o2 x.ds.length c2, .slice o3 x.al.length c3] 34)) = W at aF aq ⊢
   have ot := ag (j := 0) aF.out rfl
   have io := ag (j := 1) aF.out rfl
   have fH := ag (j := 2) aF.out rfl
   have iv := ag (j := 3) aF.out rfl
   have l0 := ag (j := 4) aF.out rfl
   have vh := ag (j := 5) aF.out rfl
   have jl : Nonempty (Later W) := ax W
   refine av (S := fun v => Below W.heap.size W v) (by kernel_rfl) (by kernel_rfl) (aS _) ?_
   repeat (first | go_big_quiet_skip | (go_big_quiet_want; go_big_quiet_op; first | go_big_quiet_on | (apply Exists.intro; refine ⟨fun q => ?_, ?_⟩; (go_at_call 205; refine (bq _ _).mono ?_; rintro e w1 ⟨rfl, rfl⟩; exact ⟨rfl, q, rfl⟩); go_big_quiet_on)))
   refine wpQuiet_nil ?_
   intro _ hw'
   obtain ⟨q, rfl⟩ := hw'
   go_wp2
   go_ret
   exact ⟨ah HF.out.symm, aq.out.trans (q.h.mono aq.out.size)⟩
  have Dc : (x.n != 0) = false := by simpa using hN
  have wS := aa hN
  clear hN
  have HH : Hid (aH x = co x) := by
   show aH x = co x
   have : bw x = true := by
    unfold bw
    rw [FD.out]
    simp [sV.out, wS.out, HK.out]
   simp [aH, this]
  go_enter Tryz.func150, Tryz.ntmps150
  go_wp2_with fail
  generalize (w.alloc (.cells #[.int .i64 x.k, .string x.s, .int .i64 x.n, .slice o1 x.l.length c1, .slice o2 x.ds.length c2, .slice o3 x.al.length c3] 34)) = W at aF aq ⊢
  have ot := ag (j := 0) aF.out rfl
  have io := ag (j := 1) aF.out rfl
  have fH := ag (j := 2) aF.out rfl
  have iv := ag (j := 3) aF.out rfl
  have l0 := ag (j := 4) aF.out rfl
  have vh := ag (j := 5) aF.out rfl
  have jl : Nonempty (Later W) := ax W
  refine av (S := fun v => Below W.heap.size W v) (by kernel_rfl) (by kernel_rfl) (aS _) ?_
  repeat (first | go_big_quiet_skip | (go_big_quiet_want; go_big_quiet_op; first | go_big_quiet_on | (apply Exists.intro; refine ⟨fun q => ?_, ?_⟩; (go_at_call 205; refine (bq _ _).mono ?_; rintro e w1 ⟨rfl, rfl⟩; exact ⟨rfl, q, rfl⟩); go_big_quiet_on)))
  refine wpQuiet_nil ?_
  intro _ hw'
  obtain ⟨q, rfl⟩ := hw'
  have HQ := aa (aq.out.trans (q.h.mono aq.out.size))
  cases hi : cz x.al.length 1 6
  ·have HI := aa hi
   clear hi
   go_wp2_with fail
   refine (fR x.al.length 1 6 _).mono ?_
   rintro e w1 ⟨rfl, rfl⟩
   rw [HI.out]
   go_wp2
   go_ret
   exact ⟨ah (by rw [HH.out]; simp [co, HK.out, HI.out]), HQ.out⟩
  ·have HI := aa hi
   clear hi
   go_wp2_with fail
   refine (fR x.al.length 1 6 _).mono ?_
   rintro e w1 ⟨rfl, rfl⟩
   rw [HI.out]
   go_wp2
   go_ret
   exact ⟨ah (by rw [HH.out]; simp [co, HK.out, HI.out, dX]), HQ.out⟩
 have SQ : (x.k == 7) = false := by simpa using hk
 have Tu : (x.k != 7) = true := by simpa using hk
 have CG := aa hk
 clear hk
 by_cases hk : x.k = 3
 ·have aL : (x.k == 3) = true := by simpa using hk
  have wH : (x.k != 3) = false := by simpa using hk
  have lq : (x.k == 1) = false := by rw [hk]; rfl
  have Cm : (x.k != 1) = true := by rw [hk]; rfl
  have zm : (x.k == 2) = false := by rw [hk]; rfl
  have Cv : (x.k != 2) = true := by rw [hk]; rfl
  have lw : (x.k == 5) = false := by rw [hk]; rfl
  have Cp : (x.k != 5) = true := by rw [hk]; rfl
  have Ln : (x.k == 6) = false := by rw [hk]; rfl
  have BY : (x.k != 6) = true := by rw [hk]; rfl
  have Ce : (x.k == 7) = false := by rw [hk]; rfl
  have Cc : (x.k != 7) = true := by rw [hk]; rfl
  have J1 : (x.k == 9) = false := by rw [hk]; rfl
  have CC : (x.k != 9) = true := by rw [hk]; rfl
  have HK := aa hk
  clear hk
  by_cases hD : x.ds.length = 0
  case neg =>
   have Kv : decide (0 < x.ds.length) = true := decide_eq_true (by omega)
   have sV := aa hD
   clear hD
   have HF : Hid (aH x = false) := by
    show aH x = false
    simp [aH, bw, sV.out, HK.out]
   go_enter Tryz.func150, Tryz.ntmps150
   go_wp2_with fail
   generalize (w.alloc (.cells #[.int .i64 x.k, .string x.s, .int .i64 x.n, .slice o1 x.l.length c1, .slice o2 x.ds.length c2, .slice o3 x.al.length c3] 34)) = W at aF aq ⊢
   have ot := ag (j := 0) aF.out rfl
   have io := ag (j := 1) aF.out rfl
   have fH := ag (j := 2) aF.out rfl
   have iv := ag (j := 3) aF.out rfl
   have l0 := ag (j := 4) aF.out rfl
   have vh := ag (j := 5) aF.out rfl
   have jl : Nonempty (Later W) := ax W
   refine av (S := fun v => Below W.heap.size W v) (by kernel_rfl) (by kernel_rfl) (aS _) ?_
   repeat (first | go_big_quiet_skip | (go_big_quiet_want; go_big_quiet_op; first | go_big_quiet_on | (apply Exists.intro; refine ⟨fun q => ?_, ?_⟩; (go_at_call 205; refine (bq _ _).mono ?_; rintro e w1 ⟨rfl, rfl⟩; exact ⟨rfl, q, rfl⟩); go_big_quiet_on)))
   refine wpQuiet_nil ?_
   intro _ hw'
   obtain ⟨q, rfl⟩ := hw'
   go_wp2
   go_ret
   exact ⟨ah HF.out.symm, aq.out.trans (q.h.mono aq.out.size)⟩
  have Kv : decide (0 < x.ds.length) = false := decide_eq_false (by omega)
  have sV := aa hD
  clear hD
  by_cases hE : x.al.length = 0
  case neg =>
   have Fw : decide (0 < x.al.length) = true := decide_eq_true (by omega)
   have uV := aa hE
   clear hE
   have HF : Hid (aH x = false) := by
    show aH x = false
    simp [aH, bw, sV.out, uV.out, HK.out]
   go_enter Tryz.func150, Tryz.ntmps150
   go_wp2_with fail
   generalize (w.alloc (.cells #[.int .i64 x.k, .string x.s, .int .i64 x.n, .slice o1 x.l.length c1, .slice o2 x.ds.length c2, .slice o3 x.al.length c3] 34)) = W at aF aq ⊢
   have ot := ag (j := 0) aF.out rfl
   have io := ag (j := 1) aF.out rfl
   have fH := ag (j := 2) aF.out rfl
   have iv := ag (j := 3) aF.out rfl
   have l0 := ag (j := 4) aF.out rfl
   have vh := ag (j := 5) aF.out rfl
   have jl : Nonempty (Later W) := ax W
   refine av (S := fun v => Below W.heap.size W v) (by kernel_rfl) (by kernel_rfl) (aS _) ?_
   repeat (first | go_big_quiet_skip | (go_big_quiet_want; go_big_quiet_op; first | go_big_quiet_on | (apply Exists.intro; refine ⟨fun q => ?_, ?_⟩; (go_at_call 205; refine (bq _ _).mono ?_; rintro e w1 ⟨rfl, rfl⟩; exact ⟨rfl, q, rfl⟩); go_big_quiet_on)))
   refine wpQuiet_nil ?_
   intro _ hw'
   obtain ⟨q, rfl⟩ := hw'
   go_wp2
   go_ret
   exact ⟨ah HF.out.symm, aq.out.trans (q.h.mono aq.out.size)⟩
  have Fw : decide (0 < x.al.length) = false := decide_eq_false (by omega)
  have uV := aa hE
  clear hE
  have HH : Hid (aH x = co x) := by
   show aH x = co x
   have : bw x = true := by
    unfold bw
    rw [FD.out]
    simp [sV.out, uV.out, HK.out]
   simp [aH, this]
  go_enter Tryz.func150, Tryz.ntmps150
  go_wp2_with fail
  generalize (w.alloc (.cells #[.int .i64 x.k, .string x.s, .int .i64 x.n, .slice o1 x.l.length c1, .slice o2 x.ds.length c2, .slice o3 x.al.length c3] 34)) = W at aF aq ⊢
  have ot := ag (j := 0) aF.out rfl
  have io := ag (j := 1) aF.out rfl
  have fH := ag (j := 2) aF.out rfl
  have iv := ag (j := 3) aF.out rfl
  have l0 := ag (j := 4) aF.out rfl
  have vh := ag (j := 5) aF.out rfl
  have jl : Nonempty (Later W) := ax W
  refine av (S := fun v => Below W.heap.size W v) (by kernel_rfl) (by kernel_rfl) (aS _) ?_
  repeat (first | go_big_quiet_skip | (go_big_quiet_want; go_big_quiet_op; first | go_big_quiet_on | (apply Exists.intro; refine ⟨fun q => ?_, ?_⟩; (go_at_call 205; refine (bq _ _).mono ?_; rintro e w1 ⟨rfl, rfl⟩; exact ⟨rfl, q, rfl⟩); go_big_quiet_on)))
  refine wpQuiet_nil ?_
  intro _ hw'
  obtain ⟨q, rfl⟩ := hw'
  have HQ := aa (aq.out.trans (q.h.mono aq.out.size))
  cases hi : cz x.n 0 999999
  ·have HI := aa hi
   clear hi
   go_wp2_with fail
   refine (fR x.n 0 999999 _).mono ?_
   rintro e w1 ⟨rfl, rfl⟩
   rw [HI.out]
   go_wp2
   go_ret
   exact ⟨ah (by rw [HH.out]; simp [co, HK.out, HI.out]), HQ.out⟩
  ·have HI := aa hi
   clear hi
   go_wp2_with fail
   refine (fR x.n 0 999999 _).mono ?_
   rintro e w1 ⟨rfl, rfl⟩
   rw [HI.out]
   go_wp2
   go_ret
   exact ⟨ah (by rw [HH.out]; simp [co, HK.out, HI.out, dX]), HQ.out⟩
 have TS : (x.k == 3) = false := by simpa using hk
 have TQ : (x.k != 3) = true := by simpa using hk
 have fA := aa hk
 clear hk
 by_cases hD : x.ds.length = 0
 case neg =>
  have Kv : decide (0 < x.ds.length) = true := decide_eq_true (by omega)
  have sV := aa hD
  clear hD
  have HF : Hid (aH x = false) := by
   show aH x = false
   simp [aH, bw, sV.out, nX.out, CG.out, fA.out]
  go_enter Tryz.func150, Tryz.ntmps150
  go_wp2_with fail
  generalize (w.alloc (.cells #[.int .i64 x.k, .string x.s, .int .i64 x.n, .slice o1 x.l.length c1, .slice o2 x.ds.length c2, .slice o3 x.al.length c3] 34)) = W at aF aq ⊢
  have ot := ag (j := 0) aF.out rfl
  have io := ag (j := 1) aF.out rfl
  have fH := ag (j := 2) aF.out rfl
  have iv := ag (j := 3) aF.out rfl
  have l0 := ag (j := 4) aF.out rfl
  have vh := ag (j := 5) aF.out rfl
  have jl : Nonempty (Later W) := ax W
  refine av (S := fun v => Below W.heap.size W v) (by kernel_rfl) (by kernel_rfl) (aS _) ?_
  repeat (first | go_big_quiet_skip | (go_big_quiet_want; go_big_quiet_op; first | go_big_quiet_on | (apply Exists.intro; refine ⟨fun q => ?_, ?_⟩; (go_at_call 205; refine (bq _ _).mono ?_; rintro e w1 ⟨rfl, rfl⟩; exact ⟨rfl, q, rfl⟩); go_big_quiet_on)))
  refine wpQuiet_nil ?_
  intro _ hw'
  obtain ⟨q, rfl⟩ := hw'
  go_wp2
  go_ret
  exact ⟨ah HF.out.symm, aq.out.trans (q.h.mono aq.out.size)⟩
 have Kv : decide (0 < x.ds.length) = false := decide_eq_false (by omega)
 have sV := aa hD
 clear hD
 by_cases hE : x.al.length = 0
 case neg =>
  have Fw : decide (0 < x.al.length) = true := decide_eq_true (by omega)
  have uV := aa hE
  clear hE
  have HF : Hid (aH x = false) := by
   show aH x = false
   simp [aH, bw, sV.out, uV.out, nX.out, CG.out, fA.out]
  go_enter Tryz.func150, Tryz.ntmps150
  go_wp2_with fail
  generalize (w.alloc (.cells #[.int .i64 x.k, .string x.s, .int .i64 x.n, .slice o1 x.l.length c1, .slice o2 x.ds.length c2, .slice o3 x.al.length c3] 34)) = W at aF aq ⊢
  have ot := ag (j := 0) aF.out rfl
  have io := ag (j := 1) aF.out rfl
  have fH := ag (j := 2) aF.out rfl
  have iv := ag (j := 3) aF.out rfl
  have l0 := ag (j := 4) aF.out rfl
  have vh := ag (j := 5) aF.out rfl
  have jl : Nonempty (Later W) := ax W
  refine av (S := fun v => Below W.heap.size W v) (by kernel_rfl) (by kernel_rfl) (aS _) ?_
  repeat (first | go_big_quiet_skip | (go_big_quiet_want; go_big_quiet_op; first | go_big_quiet_on | (apply Exists.intro; refine ⟨fun q => ?_, ?_⟩; (go_at_call 205; refine (bq _ _).mono ?_; rintro e w1 ⟨rfl, rfl⟩; exact ⟨rfl, q, rfl⟩); go_big_quiet_on)))
  refine wpQuiet_nil ?_
  intro _ hw'
  obtain ⟨q, rfl⟩ := hw'
  go_wp2
  go_ret
  exact ⟨ah HF.out.symm, aq.out.trans (q.h.mono aq.out.size)⟩
 have Fw : decide (0 < x.al.length) = false := decide_eq_false (by omega)
 have uV := aa hE
 clear hE
 by_cases hN : x.n = 0
 case neg =>
  have Dc : (x.n != 0) = true := by simpa using hN
  have wS := aa hN
  clear hN
  have HF : Hid (aH x = false) := by
   show aH x = false
   simp [aH, bw, sV.out, uV.out, wS.out, nX.out, CG.out, fA.out]
  go_enter Tryz.func150, Tryz.ntmps150
  go_wp2_with fail
  generalize (w.alloc (.cells #[.int .i64 x.k, .string x.s, .int .i64 x.n, .slice o1 x.l.length c1, .slice o2 x.ds.length c2, .slice o3 x.al.length c3] 34)) = W at aF aq ⊢
  have ot := ag (j := 0) aF.out rfl
  have io := ag (j := 1) aF.out rfl
  have fH := ag (j := 2) aF.out rfl
  have iv := ag (j := 3) aF.out rfl
  have l0 := ag (j := 4) aF.out rfl
  have vh := ag (j := 5) aF.out rfl
  have jl : Nonempty (Later W) := ax W
  refine av (S := fun v => Below W.heap.size W v) (by kernel_rfl) (by kernel_rfl) (aS _) ?_
  repeat (first | go_big_quiet_skip | (go_big_quiet_want; go_big_quiet_op; first | go_big_quiet_on | (apply Exists.intro; refine ⟨fun q => ?_, ?_⟩; (go_at_call 205; refine (bq _ _).mono ?_; rintro e w1 ⟨rfl, rfl⟩; exact ⟨rfl, q, rfl⟩); go_big_quiet_on)))
  refine wpQuiet_nil ?_
  intro _ hw'
  obtain ⟨q, rfl⟩ := hw'
  go_wp2
  go_ret
  exact ⟨ah HF.out.symm, aq.out.trans (q.h.mono aq.out.size)⟩
 have Dc : (x.n != 0) = false := by simpa using hN
 have wS := aa hN
 clear hN
 by_cases hk : x.k = 1
 ·have aL : (x.k == 1) = true := by simpa using hk
  have wH : (x.k != 1) = false := by simpa using hk
  have zm : (x.k == 2) = false := by rw [hk]; rfl
  have Cv : (x.k != 2) = true := by rw [hk]; rfl
  have th : (x.k == 3) = false := by rw [hk]; rfl
  have Ch : (x.k != 3) = true := by rw [hk]; rfl
  have lw : (x.k == 5) = false := by rw [hk]; rfl
  have Cp : (x.k != 5) = true := by rw [hk]; rfl
  have Ln : (x.k == 6) = false := by rw [hk]; rfl
  have BY : (x.k != 6) = true := by rw [hk]; rfl
  have Ce : (x.k == 7) = false := by rw [hk]; rfl
  have Cc : (x.k != 7) = true := by rw [hk]; rfl
  have J1 : (x.k == 9) = false := by rw [hk]; rfl
  have CC : (x.k != 9) = true := by rw [hk]; rfl
  have HK := aa hk
  clear hk
  have HH : Hid (aH x = co x) := by
   show aH x = co x
   have : bw x = true := by
    unfold bw
    rw [FD.out]
    simp [sV.out, uV.out, wS.out, nX.out, CG.out, fA.out]
   simp [aH, this]
  go_enter Tryz.func150, Tryz.ntmps150
  go_wp2_with fail
  generalize (w.alloc (.cells #[.int .i64 x.k, .string x.s, .int .i64 x.n, .slice o1 x.l.length c1, .slice o2 x.ds.length c2, .slice o3 x.al.length c3] 34)) = W at aF aq ⊢
  have ot := ag (j := 0) aF.out rfl
  have io := ag (j := 1) aF.out rfl
  have fH := ag (j := 2) aF.out rfl
  have iv := ag (j := 3) aF.out rfl
  have l0 := ag (j := 4) aF.out rfl
  have vh := ag (j := 5) aF.out rfl
  have jl : Nonempty (Later W) := ax W
  refine av (S := fun v => Below W.heap.size W v) (by kernel_rfl) (by kernel_rfl) (aS _) ?_
  repeat (first | go_big_quiet_skip | (go_big_quiet_want; go_big_quiet_op; first | go_big_quiet_on | (apply Exists.intro; refine ⟨fun q => ?_, ?_⟩; (go_at_call 205; refine (bq _ _).mono ?_; rintro e w1 ⟨rfl, rfl⟩; exact ⟨rfl, q, rfl⟩); go_big_quiet_on)))
  refine wpQuiet_nil ?_
  intro _ hw'
  obtain ⟨q, rfl⟩ := hw'
  have HQ := aa (aq.out.trans (q.h.mono aq.out.size))
  go_wp2_with fail
  refine (cv _ _ HS.out).mono ?_
  rintro e w1 ⟨rfl, hb⟩
  have aR := aa (HQ.out.trans (hb.mono HQ.out.size))
  clear hb
  go_wp2
  go_ret
  exact ⟨ah (by rw [HH.out]; simp [co, HK.out, mf]), aR.out⟩
 have Td : (x.k == 1) = false := by simpa using hk
 have Rl : (x.k != 1) = true := by simpa using hk
 have ez := aa hk
 clear hk
 by_cases hk : x.k = 2
 ·have aL : (x.k == 2) = true := by simpa using hk
  have wH : (x.k != 2) = false := by simpa using hk
  have lq : (x.k == 1) = false := by rw [hk]; rfl
  have Cm : (x.k != 1) = true := by rw [hk]; rfl
  have th : (x.k == 3) = false := by rw [hk]; rfl
  have Ch : (x.k != 3) = true := by rw [hk]; rfl
  have lw : (x.k == 5) = false := by rw [hk]; rfl
  have Cp : (x.k != 5) = true := by rw [hk]; rfl
  have Ln : (x.k == 6) = false := by rw [hk]; rfl
  have BY : (x.k != 6) = true := by rw [hk]; rfl
  have Ce : (x.k == 7) = false := by rw [hk]; rfl
  have Cc : (x.k != 7) = true := by rw [hk]; rfl
  have J1 : (x.k == 9) = false := by rw [hk]; rfl
  have CC : (x.k != 9) = true := by rw [hk]; rfl
  have HK := aa hk
  clear hk
  have HH : Hid (aH x = co x) := by
   show aH x = co x
   have : bw x = true := by
    unfold bw
    rw [FD.out]
    simp [sV.out, uV.out, wS.out, nX.out, CG.out, fA.out]
   simp [aH, this]
  go_enter Tryz.func150, Tryz.ntmps150
  go_wp2_with fail
  generalize (w.alloc (.cells #[.int .i64 x.k, .string x.s, .int .i64 x.n, .slice o1 x.l.length c1, .slice o2 x.ds.length c2, .slice o3 x.al.length c3] 34)) = W at aF aq ⊢
  have ot := ag (j := 0) aF.out rfl
  have io := ag (j := 1) aF.out rfl
  have fH := ag (j := 2) aF.out rfl
  have iv := ag (j := 3) aF.out rfl
  have l0 := ag (j := 4) aF.out rfl
  have vh := ag (j := 5) aF.out rfl
  have jl : Nonempty (Later W) := ax W
  refine av (S := fun v => Below W.heap.size W v) (by kernel_rfl) (by kernel_rfl) (aS _) ?_
  repeat (first | go_big_quiet_skip | (go_big_quiet_want; go_big_quiet_op; first | go_big_quiet_on | (apply Exists.intro; refine ⟨fun q => ?_, ?_⟩; (go_at_call 205; refine (bq _ _).mono ?_; rintro e w1 ⟨rfl, rfl⟩; exact ⟨rfl, q, rfl⟩); go_big_quiet_on)))
  refine wpQuiet_nil ?_
  intro _ hw'
  obtain ⟨q, rfl⟩ := hw'
  have HQ := aa (aq.out.trans (q.h.mono aq.out.size))
  go_wp2_with fail
  refine (ga _ _ HS.out).mono ?_
  rintro e w1 ⟨rfl, rfl⟩
  go_wp2
  go_ret
  exact ⟨ah (by rw [HH.out]; simp [co, HK.out, Do]), HQ.out⟩
 have SS : (x.k == 2) = false := by simpa using hk
 have wH : (x.k != 2) = true := by simpa using hk
 have fh := aa hk
 clear hk
 by_cases hk : x.k = 5
 ·have aL : (x.k == 5) = true := by simpa using hk
  have wH : (x.k != 5) = false := by simpa using hk
  have lq : (x.k == 1) = false := by rw [hk]; rfl
  have Cm : (x.k != 1) = true := by rw [hk]; rfl
  have zm : (x.k == 2) = false := by rw [hk]; rfl
  have Cv : (x.k != 2) = true := by rw [hk]; rfl
  have th : (x.k == 3) = false := by rw [hk]; rfl
  have Ch : (x.k != 3) = true := by rw [hk]; rfl
  have Ln : (x.k == 6) = false := by rw [hk]; rfl
  have BY : (x.k != 6) = true := by rw [hk]; rfl
  have Ce : (x.k == 7) = false := by rw [hk]; rfl
  have Cc : (x.k != 7) = true := by rw [hk]; rfl
  have J1 : (x.k == 9) = false := by rw [hk]; rfl
  have CC : (x.k != 9) = true := by rw [hk]; rfl
  have HK := aa hk
  clear hk
  have HH : Hid (aH x = co x) := by
   show aH x = co x
   have : bw x = true := by
    unfold bw
    rw [FD.out]
    simp [sV.out, uV.out, wS.out, nX.out, CG.out, fA.out]
   simp [aH, this]
  go_enter Tryz.func150, Tryz.ntmps150
  go_wp2_with fail
  generalize (w.alloc (.cells #[.int .i64 x.k, .string x.s, .int .i64 x.n, .slice o1 x.l.length c1, .slice o2 x.ds.length c2, .slice o3 x.al.length c3] 34)) = W at aF aq ⊢
  have ot := ag (j := 0) aF.out rfl
  have io := ag (j := 1) aF.out rfl
  have fH := ag (j := 2) aF.out rfl
  have iv := ag (j := 3) aF.out rfl
  have l0 := ag (j := 4) aF.out rfl
  have vh := ag (j := 5) aF.out rfl
  have jl : Nonempty (Later W) := ax W
  refine av (S := fun v => Below W.heap.size W v) (by kernel_rfl) (by kernel_rfl) (aS _) ?_
  repeat (first | go_big_quiet_skip | (go_big_quiet_want; go_big_quiet_op; first | go_big_quiet_on | (apply Exists.intro; refine ⟨fun q => ?_, ?_⟩; (go_at_call 205; refine (bq _ _).mono ?_; rintro e w1 ⟨rfl, rfl⟩; exact ⟨rfl, q, rfl⟩); go_big_quiet_on)))
  refine wpQuiet_nil ?_
  intro _ hw'
  obtain ⟨q, rfl⟩ := hw'
  have HQ := aa (aq.out.trans (q.h.mono aq.out.size))
  have hm := q.h.mono (Nat.zero_le _)
  clear hm
  cases hn : fF x.s.data.toList
  all_goals
   have HN := aa hn
   clear hn
   go_wp2_with fail
   refine (cv _ _ HS.out).mono ?_
   rintro e w1 ⟨rfl, hb⟩
   rw [HN.out]
   have aR := aa (HQ.out.trans (hb.mono HQ.out.size))
   have b1 : w1.cell? ⟨w.heap.size, 1, none⟩ = some (.string x.s) := (hb.cell (p := ⟨w.heap.size, 1, none⟩) (Nat.lt_of_lt_of_le (ad aF.out) q.h.size)).trans (io q)
   clear hb
   go_wp2
   go_ret
   exact ⟨ah (by rw [HH.out]; simp [co, HK.out, mf, HN.out, vk]), aR.out⟩
 have Uj : (x.k == 5) = false := by simpa using hk
 have SY : (x.k != 5) = true := by simpa using hk
 have ze := aa hk
 clear hk
 by_cases hk : x.k = 9
 ·have aL : (x.k == 9) = true := by simpa using hk
  have wH : (x.k != 9) = false := by simpa using hk
  have lq : (x.k == 1) = false := by rw [hk]; rfl
  have Cm : (x.k != 1) = true := by rw [hk]; rfl
  have zm : (x.k == 2) = false := by rw [hk]; rfl
  have Cv : (x.k != 2) = true := by rw [hk]; rfl
  have th : (x.k == 3) = false := by rw [hk]; rfl
  have Ch : (x.k != 3) = true := by rw [hk]; rfl
  have lw : (x.k == 5) = false := by rw [hk]; rfl
  have Cp : (x.k != 5) = true := by rw [hk]; rfl
  have Ln : (x.k == 6) = false := by rw [hk]; rfl
  have BY : (x.k != 6) = true := by rw [hk]; rfl
  have Ce : (x.k == 7) = false := by rw [hk]; rfl
  have Cc : (x.k != 7) = true := by rw [hk]; rfl
  have HK := aa hk
  clear hk
  have HH : Hid (aH x = co x) := by
   show aH x = co x
   have : bw x = true := by
    unfold bw
    rw [FD.out]
    simp [sV.out, uV.out, wS.out, nX.out, CG.out, fA.out]
   simp [aH, this]
  go_enter Tryz.func150, Tryz.ntmps150
  go_wp2_with fail
  generalize (w.alloc (.cells #[.int .i64 x.k, .string x.s, .int .i64 x.n, .slice o1 x.l.length c1, .slice o2 x.ds.length c2, .slice o3 x.al.length c3] 34)) = W at aF aq ⊢
  have ot := ag (j := 0) aF.out rfl
  have io := ag (j := 1) aF.out rfl
  have fH := ag (j := 2) aF.out rfl
  have iv := ag (j := 3) aF.out rfl
  have l0 := ag (j := 4) aF.out rfl
  have vh := ag (j := 5) aF.out rfl
  have jl : Nonempty (Later W) := ax W
  refine av (S := fun v => Below W.heap.size W v) (by kernel_rfl) (by kernel_rfl) (aS _) ?_
  repeat (first | go_big_quiet_skip | (go_big_quiet_want; go_big_quiet_op; first | go_big_quiet_on | (apply Exists.intro; refine ⟨fun q => ?_, ?_⟩; (go_at_call 205; refine (bq _ _).mono ?_; rintro e w1 ⟨rfl, rfl⟩; exact ⟨rfl, q, rfl⟩); go_big_quiet_on)))
  refine wpQuiet_nil ?_
  intro _ hw'
  obtain ⟨q, rfl⟩ := hw'
  have HQ := aa (aq.out.trans (q.h.mono aq.out.size))
  go_wp2_with fail
  refine (Ay _ _).mono ?_
  rintro e w1 ⟨rfl, hb⟩
  have aR := aa (HQ.out.trans (hb.mono HQ.out.size))
  clear hb
  go_wp2
  go_ret
  exact ⟨ah (by rw [HH.out]; simp [co, HK.out]), aR.out⟩
 have Sj : (x.k == 9) = false := by simpa using hk
 have TO : (x.k != 9) = true := by simpa using hk
 have rT := aa hk
 clear hk
 have HH : Hid (aH x = co x) := by
  show aH x = co x
  have : bw x = true := by
   unfold bw
   rw [FD.out]
   simp [sV.out, uV.out, wS.out, nX.out, CG.out, fA.out]
  simp [aH, this]
 go_enter Tryz.func150, Tryz.ntmps150
 go_wp2_with fail
 generalize (w.alloc (.cells #[.int .i64 x.k, .string x.s, .int .i64 x.n, .slice o1 x.l.length c1, .slice o2 x.ds.length c2, .slice o3 x.al.length c3] 34)) = W at aF aq ⊢
 have ot := ag (j := 0) aF.out rfl
 have io := ag (j := 1) aF.out rfl
 have fH := ag (j := 2) aF.out rfl
 have iv := ag (j := 3) aF.out rfl
 have l0 := ag (j := 4) aF.out rfl
 have vh := ag (j := 5) aF.out rfl
 have jl : Nonempty (Later W) := ax W
 refine av (S := fun v => Below W.heap.size W v) (by kernel_rfl) (by kernel_rfl) (aS _) ?_
 repeat (first | go_big_quiet_skip | (go_big_quiet_want; go_big_quiet_op; first | go_big_quiet_on | (apply Exists.intro; refine ⟨fun q => ?_, ?_⟩; (go_at_call 205; refine (bq _ _).mono ?_; rintro e w1 ⟨rfl, rfl⟩; exact ⟨rfl, q, rfl⟩); go_big_quiet_on)))
 refine wpQuiet_nil ?_
 intro _ hw'
 obtain ⟨q, rfl⟩ := hw'
 go_wp2
 go_ret
 exact ⟨ah (by rw [HH.out]; simp [co, ez.out, fh.out, fA.out, ze.out, rT.out, CG.out, dX]), aq.out.trans (q.h.mono aq.out.size)⟩
end Go.Proofs.YtfomndilhlgikajGreatDoor
