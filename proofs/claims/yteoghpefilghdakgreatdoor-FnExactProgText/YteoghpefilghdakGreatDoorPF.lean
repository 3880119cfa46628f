/- The model's measure of a type. -/
import Derived.Test.YteoghpefilghdakGreatDoorPE
namespace Go.Proofs.YteoghpefilghdakGreatDoor
open Go.ChangeShapes Go.WideShapes Go.ChangeAt Go.RowKit

set_option maxHeartbeats 2000000 in
set_option maxRecDepth 100000 in
theorem written_fun {h : Nat} (ih : CoTy h) {K : Nat → Prop} (x : Tr) (w : World) (d : Int) (hd0 : 0 ≤ d) (hd7 : d ≤ 7) (o : Option Addr) (c : Nat) (hrow : RowOf K w (tyR K w h) 4 o x.l) (hok : tyHere x d = true) (hk : x.k = 4) (hn : x.n = 0) (hem : emptyB x.s = true) (hl : x.l.length = 2) (hd : ¬ 6 < d) :
    Calls Tryz.prog 50 #[.agg #[.int .i64 x.k, .string x.s, .int .i64 x.n, .slice o x.l.length c], .int .i64 d] w fun e w' => e = .returned (.int .i64 (wrZ (h + 1) x d)) ∧ Below w.heap.size w w' := by
  have IH := hide ih
  have HRW := hide hrow
  clear ih hrow
  have HB0 : Hid (Below w.heap.size w (w.alloc (.cells #[.int .i64 x.k, .string x.s, .int .i64 x.n, .slice o x.l.length c] 81))) := (Below.refl _ w).alloc (Nat.le_refl _) _
  have HX0 : Hid ((w.alloc (.cells #[.int .i64 x.k, .string x.s, .int .i64 x.n, .slice o x.l.length c] 81)).heap[w.heap.size]? = some (.cells #[.int .i64 x.k, .string x.s, .int .i64 x.n, .slice o x.l.length c] 81 (0, 0))) := heap_alloc_new w _
  have hn2 : (x.n != 0) = false := by simpa using hn
  have hn3 : (x.n == 0) = true := by simpa using hn
  have hs2 : (x.s.toList != []) = false := by show (!(emptyB x.s)) = false; rw [hem]; rfl
  have hs3 : (x.s.toList == []) = true := hem
  have e1 : (x.k == 1) = false := by rw [hk]; rfl
  have n1 : (x.k != 1) = true := by rw [hk]; rfl
  have e2 : (x.k == 2) = false := by rw [hk]; rfl
  have n2 : (x.k != 2) = true := by rw [hk]; rfl
  have e3 : (x.k == 3) = false := by rw [hk]; rfl
  have n3 : (x.k != 3) = true := by rw [hk]; rfl
  have e4 : (x.k == 4) = true := by rw [hk]; rfl
  have n4 : (x.k != 4) = false := by rw [hk]; rfl
  have HK := hide hk
  clear hk
  have HOK := hide hok
  clear hn hem hok
  obtain ⟨a, b, hab⟩ : ∃ a b, x.l = [a, b] := by
    match h9 : x.l, hl with
    | [a, b], _ => exact ⟨a, b, rfl⟩
  have HAB := hide hab
  rw [hl] at HB0 HX0 ⊢
  have hrw := HRW.out.later HB0.out (tyR_later HB0.out h)
  obtain ⟨bb, off, eo, -, hbl, hcs⟩ := hrw (by rw [hab]; simp)
  subst eo
  obtain ⟨ca, lA, kA, rA⟩ := hcs 0 a (by rw [hab]; rfl)
  obtain ⟨cb, lB, kB, rB⟩ := hcs 1 b (by rw [hab]; rfl)
  obtain ⟨oa, ga, rfl⟩ := ty_form rA
  obtain ⟨ob, gb, rfl⟩ := ty_form rB
  have h2 : (x.l.length == 2) = true := by simpa using hl
  have h3 : ((x.l.length : Int) == 2) = true := by rw [beq_iff_eq]; omega
  have wa := wr_lt h a (d + 1) (by omega) (by omega)
  have wb := wr_lt h b (d + 1) (by omega) (by omega)
  generalize hra : wrZ h a (d + 1) = ra at wa
  generalize hrb : wrZ h b (d + 1) = rb at wb
  have HRA := hide hra
  have HRB := hide hrb
  obtain ⟨wa0, wa1⟩ := wa
  obtain ⟨wb0, wb1⟩ := wb
  have RA := hide rA
  have RB := hide rB
  have qa0 := kA 0 _ rfl
  have qa1 := kA 1 _ rfl
  have qa2 := kA 2 _ rfl
  have qa3 := kA 3 _ rfl
  have qb0 := kB 0 _ rfl
  have qb1 := kB 1 _ rfl
  have qb2 := kB 2 _ rfl
  have qb3 := kB 3 _ rfl
  simp only [Nat.zero_mul, Nat.one_mul, Nat.add_zero] at qa0 qa1 qa2 qa3 qb0 qb1 qb2 qb3
  clear hra hrb rA rB kA kB hcs hrw lA lB hab
  go_enter Tryz.func50, Tryz.ntmps50
  go_wp2_with fail
  generalize (w.alloc (.cells #[.int .i64 x.k, .string x.s, .int .i64 x.n, .slice (some ⟨bb, off, none⟩) 2 c] 81)) = W at HX0 HB0 RA RB hbl qa0 qa1 qa2 qa3 qb0 qb1 qb2 qb3 ⊢
  have hq3 := later_cell (j := 3) HX0.out rfl
  have ma0 : ∀ q : Later W, q.w.cell? ⟨bb, off, none⟩ = _ := fun q => (q.h.cell (p := ⟨bb, off, none⟩) hbl).trans qa0
  have ma1 : ∀ q : Later W, q.w.cell? ⟨bb, off + 1, none⟩ = _ := fun q => (q.h.cell (p := ⟨bb, off + 1, none⟩) hbl).trans qa1
  have ma2 : ∀ q : Later W, q.w.cell? ⟨bb, off + 2, none⟩ = _ := fun q => (q.h.cell (p := ⟨bb, off + 2, none⟩) hbl).trans qa2
  have ma3 : ∀ q : Later W, q.w.cell? ⟨bb, off + 3, none⟩ = _ := fun q => (q.h.cell (p := ⟨bb, off + 3, none⟩) hbl).trans qa3
  have mb0 : ∀ q : Later W, q.w.cell? ⟨bb, off + 4, none⟩ = _ := fun q => (q.h.cell (p := ⟨bb, off + 4, none⟩) hbl).trans qb0
  have mb1 : ∀ q : Later W, q.w.cell? ⟨bb, off + 4 + 1, none⟩ = _ := fun q => (q.h.cell (p := ⟨bb, off + 4 + 1, none⟩) hbl).trans qb1
  have mb2 : ∀ q : Later W, q.w.cell? ⟨bb, off + 4 + 2, none⟩ = _ := fun q => (q.h.cell (p := ⟨bb, off + 4 + 2, none⟩) hbl).trans qb2
  have mb3 : ∀ q : Later W, q.w.cell? ⟨bb, off + 4 + 3, none⟩ = _ := fun q => (q.h.cell (p := ⟨bb, off + 4 + 3, none⟩) hbl).trans qb3
  clear qa0 qa1 qa2 qa3 qb0 qb1 qb2 qb3
  have hne0 : Nonempty (Later W) := later_nonempty W
  refine wp_region_class (S := fun v => Below W.heap.size W v) (by kernel_rfl) (by kernel_rfl) (below_drew _) ?_
  iterate 7 (first | go_big_quiet_skip | (go_big_quiet_want; go_big_quiet_op; first | go_big_quiet_on | (apply Exists.intro; refine ⟨fun q => ?_, ?_⟩; (go_at_call 50; refine (IH.out K a [.int .i64 a.k, .string a.s, .int .i64 a.n, .slice oa a.l.length ga] _ (d + 1) (by omega) (by omega) (tyR_later q.h h _ _ RA.out)).mono ?_; rintro e w1 ⟨rfl, hb1⟩; rw [HRA.out]; exact ⟨rfl, Later.on q hb1, rfl⟩); go_big_quiet_on)))
  repeat (first | go_big_quiet_skip | (go_big_quiet_want; go_big_quiet_op; first | go_big_quiet_on | (apply Exists.intro; refine ⟨fun q => ?_, ?_⟩; (go_at_call 50; refine (IH.out K b [.int .i64 b.k, .string b.s, .int .i64 b.n, .slice ob b.l.length gb] _ (d + 1) (by omega) (by omega) (tyR_later q.h h _ _ RB.out)).mono ?_; rintro e w1 ⟨rfl, hb1⟩; rw [HRB.out]; exact ⟨rfl, Later.on q hb1, rfl⟩); go_big_quiet_on)))
  refine wpQuiet_nil ?_
  intro _ hw'
  obtain ⟨q, rfl⟩ := hw'
  go_wp2
  go_ret
  exact ⟨ret_int (by rw [wr_fun HOK.out HAB.out, HRA.out, HRB.out]), HB0.out.trans (q.h.mono HB0.out.size)⟩

set_option maxHeartbeats 1000000 in
set_option maxRecDepth 100000 in
theorem written_step {h : Nat} (ih : CoTy h) : CoTy (h + 1) := by
  intro K x cs w d hd0 hd7 hr
  obtain ⟨-, -, -, o, c, rfl, hs, hf, hrow⟩ := hr
  have IH := hide ih
  have HS := hide hs
  have HRW := hide hrow
  have hl2 : x.l.length ≤ 9223372036854775807 := hf.1
  clear ih hs hrow hf
  have HB0 : Hid (Below w.heap.size w (w.alloc (.cells #[.int .i64 x.k, .string x.s, .int .i64 x.n, .slice o x.l.length c] 81))) := (Below.refl _ w).alloc (Nat.le_refl _) _
  have HX0 : Hid ((w.alloc (.cells #[.int .i64 x.k, .string x.s, .int .i64 x.n, .slice o x.l.length c] 81)).heap[w.heap.size]? = some (.cells #[.int .i64 x.k, .string x.s, .int .i64 x.n, .slice o x.l.length c] 81 (0, 0))) := heap_alloc_new w _
  by_cases hd : 6 < d
  · have HF := hide (tyh_deep (t := x) hd)
    go_enter Tryz.func50, Tryz.ntmps50
    go_wp2
    go_ret
    exact ⟨ret_int (wr_bad (HF.out)).symm, HB0.out⟩
  by_cases hn : x.n = 0
  case neg =>
    have HF := hide (tyh_n (d := d) hn)
    have hn2 : (x.n != 0) = true := by simpa using hn
    have hn3 : (x.n == 0) = false := by simpa using hn
    clear hn
    go_enter Tryz.func50, Tryz.ntmps50
    go_wp2
    go_ret
    exact ⟨ret_int (wr_bad (HF.out)).symm, HB0.out⟩
  have HN := hide hn
  have hn2 : (x.n != 0) = false := by simpa using hn
  have hn3 : (x.n == 0) = true := by simpa using hn
  clear hn
  by_cases hk : x.k = 4
  · have HT := hide (tyh_4 (d := d) (by omega) HN.out hk)
    have e1 : (x.k == 1) = false := by rw [hk]; rfl
    have n1 : (x.k != 1) = true := by rw [hk]; rfl
    have e2 : (x.k == 2) = false := by rw [hk]; rfl
    have n2 : (x.k != 2) = true := by rw [hk]; rfl
    have e3 : (x.k == 3) = false := by rw [hk]; rfl
    have n3 : (x.k != 3) = true := by rw [hk]; rfl
    have e4 : (x.k == 4) = true := by rw [hk]; rfl
    have n4 : (x.k != 4) = false := by rw [hk]; rfl
    have HK := hide hk
    clear hk
    cases hem : emptyB x.s
    · have hs2 : (x.s.toList != []) = true := by show (!(emptyB x.s)) = true; rw [hem]; rfl
      have hs3 : (x.s.toList == []) = false := hem
      have HE := hide hem
      clear hem
      go_enter Tryz.func50, Tryz.ntmps50
      go_wp2
      go_ret
      exact ⟨ret_int (wr_bad (by rw [HT.out, HE.out]; rfl)).symm, HB0.out⟩
    have hs2 : (x.s.toList != []) = false := by show (!(emptyB x.s)) = false; rw [hem]; rfl
    have hs3 : (x.s.toList == []) = true := hem
    have HE := hide hem
    clear hem
    by_cases hl : x.l.length = 2
    case neg =>
      have h2 : (x.l.length == 2) = false := by simpa using hl
      have h3 : ((x.l.length : Int) == 2) = false := by
        rw [beq_eq_false_iff_ne]
        omega
      have HL := hide hl
      clear hl
      go_enter Tryz.func50, Tryz.ntmps50
      go_wp2
      go_ret
      exact ⟨ret_int (wr_bad (by rw [HT.out, decide_eq_false HL.out, Bool.and_false])).symm, HB0.out⟩
    exact written_fun IH.out x w d hd0 hd7 o c HRW.out (by show tyHere x d = true; rw [HT.out, HE.out, decide_eq_true hl]; rfl) HK.out HN.out HE.out hl (by omega)
  by_cases hk3 : x.k = 3
  · have hk := hk3
    clear hk3
    have HT := hide (tyh_3 (d := d) (by omega) HN.out hk)
    have e1 : (x.k == 1) = false := by rw [hk]; rfl
    have n1 : (x.k != 1) = true := by rw [hk]; rfl
    have e2 : (x.k == 2) = false := by rw [hk]; rfl
    have n2 : (x.k != 2) = true := by rw [hk]; rfl
    have e3 : (x.k == 3) = true := by rw [hk]; rfl
    have n3 : (x.k != 3) = false := by rw [hk]; rfl
    have e4 : (x.k == 4) = false := by rw [hk]; rfl
    have n4 : (x.k != 4) = true := by rw [hk]; rfl
    have HK := hide hk
    clear hk
    by_cases hl : x.l.length = 0
    case neg =>
      have h2 : decide (0 < x.l.length) = true := decide_eq_true (by omega)
      have h3 : decide ((0 : Int) < x.l.length) = true := decide_eq_true (by omega)
      have hpos : 0 < x.l.length := by omega
      have HL := hide hl
      clear hl
      go_enter Tryz.func50, Tryz.ntmps50
      go_wp2
      go_ret
      exact ⟨ret_int (wr_bad (by rw [HT.out, decide_eq_false HL.out, Bool.and_false])).symm, HB0.out⟩
    have h2 : decide (0 < x.l.length) = false := decide_eq_false (by omega)
    have h3 : decide ((0 : Int) < x.l.length) = false := decide_eq_false (by omega)
    have hpos : ¬ 0 < x.l.length := by omega
    have HL := hide hl
    clear hl
    cases hg : grB x.s
    · have HG : Hid (greatB x.s.data.toList = false) := hg
      have HG2 := hide hg
      clear hg
      go_enter Tryz.func50, Tryz.ntmps50
      go_wp2_with fail
      refine (specGreat_any _ _ HS.out).mono ?_
      rintro e w1 ⟨rfl, hb⟩
      rw [HG.out]
      have HB1 : Hid (Below w.heap.size w w1) := by rw [hb]; exact HB0.out
      clear hb
      go_wp2
      go_ret
      exact ⟨ret_int (wr_bad (by rw [HT.out, tyNm, HG2.out]; rfl)).symm, HB1.out⟩
    have HG : Hid (greatB x.s.data.toList = true) := hg
    have HG2 := hide hg
    clear hg
    cases ha : (x.s.toList == [73, 110, 116])
    · have ha2 : (x.s.toList != [73, 110, 116]) = true := by show (!(x.s.toList == [73, 110, 116])) = true; rw [ha]; rfl
      have HA := hide ha
      cases hbo : (x.s.toList == [66, 111, 111, 108])
      all_goals
        have HBO := hide hbo
        have hb2 : (x.s.toList != [66, 111, 111, 108]) = !(x.s.toList == [66, 111, 111, 108]) := rfl
        rw [hbo] at hb2
        simp only [Bool.not_false, Bool.not_true] at hb2
        go_enter Tryz.func50, Tryz.ntmps50
        go_wp2_with fail
        refine (specGreat_any _ _ HS.out).mono ?_
        rintro e w1 ⟨rfl, hb⟩
        rw [HG.out, hb]
        clear hb
        go_wp2
        go_ret
      · exact ⟨ret_int (wr_leaf (by rw [HT.out, tyNm, HG2.out, givenT, HA.out, HBO.out, decide_eq_true HL.out]; rfl) HL.out).symm, HB0.out⟩
      · exact ⟨ret_int (wr_bad (by rw [HT.out, tyNm, HG2.out, givenT, HA.out, HBO.out]; rfl)).symm, HB0.out⟩
    · have ha2 : (x.s.toList != [73, 110, 116]) = false := by show (!(x.s.toList == [73, 110, 116])) = false; rw [ha]; rfl
      have HA := hide ha
      go_enter Tryz.func50, Tryz.ntmps50
      go_wp2_with fail
      refine (specGreat_any _ _ HS.out).mono ?_
      rintro e w1 ⟨rfl, hb⟩
      rw [HG.out, hb]
      clear hb
      go_wp2
      go_ret
      exact ⟨ret_int (wr_bad (by rw [HT.out, tyNm, HG2.out, givenT, HA.out]; rfl)).symm, HB0.out⟩
  have n3 : (x.k != 3) = true := by simpa using hk3
  have e3 : (x.k == 3) = false := by simpa using hk3
  have n4 : (x.k != 4) = true := by simpa using hk
  have e4 : (x.k == 4) = false := by simpa using hk
  by_cases hk12 : x.k = 1 ∨ x.k = 2
  · have HT := hide (tyh_12 (d := d) (by omega) HN.out hk12)
    have hk1 : (x.k == 1) = true ∨ ((x.k == 1) = false ∧ (x.k == 2) = true) := by
      rcases hk12 with h | h
      · exact Or.inl (by rw [h]; rfl)
      · exact Or.inr ⟨by rw [h]; rfl, by rw [h]; rfl⟩
    clear hk hk3 hk12
    cases hem : emptyB x.s
    · have hs2 : (x.s.toList != []) = true := by show (!(emptyB x.s)) = true; rw [hem]; rfl
      have hs3 : (x.s.toList == []) = false := hem
      have HE := hide hem
      clear hem
      go_enter Tryz.func50, Tryz.ntmps50
      go_wp2
      go_ret
      exact ⟨ret_int (wr_bad (by rw [HT.out, HE.out]; rfl)).symm, HB0.out⟩
    have hs2 : (x.s.toList != []) = false := by show (!(emptyB x.s)) = false; rw [hem]; rfl
    have hs3 : (x.s.toList == []) = true := hem
    have HE := hide hem
    clear hem
    by_cases hl : x.l.length = 0
    case neg =>
      have h2 : decide (0 < x.l.length) = true := decide_eq_true (by omega)
      have h3 : decide ((0 : Int) < x.l.length) = true := decide_eq_true (by omega)
      have hpos : 0 < x.l.length := by omega
      have HL := hide hl
      clear hl
      go_enter Tryz.func50, Tryz.ntmps50
      go_wp2
      go_ret
      exact ⟨ret_int (wr_bad (by rw [HT.out, decide_eq_false HL.out, Bool.and_false])).symm, HB0.out⟩
    have h2 : decide (0 < x.l.length) = false := decide_eq_false (by omega)
    have h3 : decide ((0 : Int) < x.l.length) = false := decide_eq_false (by omega)
    have hpos : ¬ 0 < x.l.length := by omega
    have HL := hide hl
    clear hl
    rcases hk1 with e1 | ⟨e1, e2⟩
    all_goals
      go_enter Tryz.func50, Tryz.ntmps50
      go_wp2
      go_ret
      exact ⟨ret_int (wr_leaf (by rw [HT.out, HE.out, decide_eq_true HL.out]; rfl) HL.out).symm, HB0.out⟩
  have HT := hide (tyh_no (t := x) (d := d) (by omega))
  have e1 : (x.k == 1) = false := by rw [beq_eq_false_iff_ne]; omega
  have e2 : (x.k == 2) = false := by rw [beq_eq_false_iff_ne]; omega
  clear hk hk3 hk12
  cases hem : emptyB x.s
  · have hs2 : (x.s.toList != []) = true := by show (!(emptyB x.s)) = true; rw [hem]; rfl
    have hs3 : (x.s.toList == []) = false := hem
    have HE := hide hem
    clear hem
    go_enter Tryz.func50, Tryz.ntmps50
    go_wp2
    go_ret
    exact ⟨ret_int (wr_bad (HT.out)).symm, HB0.out⟩
  have hs2 : (x.s.toList != []) = false := by show (!(emptyB x.s)) = false; rw [hem]; rfl
  have hs3 : (x.s.toList == []) = true := hem
  have HE := hide hem
  clear hem
  by_cases hl : x.l.length = 0
  case neg =>
    have h2 : decide (0 < x.l.length) = true := decide_eq_true (by omega)
    have h3 : decide ((0 : Int) < x.l.length) = true := decide_eq_true (by omega)
    have hpos : 0 < x.l.length := by omega
    have HL := hide hl
    clear hl
    go_enter Tryz.func50, Tryz.ntmps50
    go_wp2
    go_ret
    exact ⟨ret_int (wr_bad (HT.out)).symm, HB0.out⟩
  have h2 : decide (0 < x.l.length) = false := decide_eq_false (by omega)
  have h3 : decide ((0 : Int) < x.l.length) = false := decide_eq_false (by omega)
  have hpos : ¬ 0 < x.l.length := by omega
  have HL := hide hl
  clear hl
  go_enter Tryz.func50, Tryz.ntmps50
  go_wp2
  go_ret
  exact ⟨ret_int (wr_bad (HT.out)).symm, HB0.out⟩

theorem written_all (h : Nat) : CoTy h := by
  induction h with
  | zero => exact fun _ _ _ _ _ _ _ hr => hr.elim
  | succ h ih => exact written_step ih
end Go.Proofs.YteoghpefilghdakGreatDoor
