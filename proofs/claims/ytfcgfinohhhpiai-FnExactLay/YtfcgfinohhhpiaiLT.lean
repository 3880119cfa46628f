/- What a sign must be, closes and opens, in the program. -/
import Derived.Test.YtfcgfinohhhpiaiLS
namespace Go.Proofs.Ytfcgfinohhhpiai.I
open Go.RowKit Go.Proofs.Ytfcgfinohhhpiai

theorem listPar : (ByteArray.mk #[40]).toList = [40] := by kernel_rfl
theorem sgnPar (t : TokZ) : ((sgn t).toList == [40]) = isB t 5 ⟨#[40]⟩ := by
  have h := sgn_mark t ⟨#[40]⟩ (by rw [listPar]; decide) (by rw [listPar]; decide)
  rw [listPar] at h
  exact h

theorem listRap : (ByteArray.mk #[41]).toList = [41] := by kernel_rfl
theorem sgnRap (t : TokZ) : ((sgn t).toList == [41]) = isB t 5 ⟨#[41]⟩ := by
  have h := sgn_mark t ⟨#[41]⟩ (by rw [listRap]; decide) (by rw [listRap]; decide)
  rw [listRap] at h
  exact h

theorem listLet : (ByteArray.mk #[108, 101, 116]).toList = [108, 101, 116] := by kernel_rfl
theorem sgnLet (t : TokZ) : ((sgn t).toList == [108, 101, 116]) = isB t 4 ⟨#[108, 101, 116]⟩ := by
  have h := sgn_word t ⟨#[108, 101, 116]⟩ (by rw [listLet]; decide) (by rw [listLet]; decide)
  rw [listLet] at h
  exact h

theorem listIn : (ByteArray.mk #[105, 110]).toList = [105, 110] := by kernel_rfl
theorem sgnIn (t : TokZ) : ((sgn t).toList == [105, 110]) = isB t 4 ⟨#[105, 110]⟩ := by
  have h := sgn_word t ⟨#[105, 110]⟩ (by rw [listIn]; decide) (by rw [listIn]; decide)
  rw [listIn] at h
  exact h

theorem listIf : (ByteArray.mk #[105, 102]).toList = [105, 102] := by kernel_rfl
theorem sgnIf (t : TokZ) : ((sgn t).toList == [105, 102]) = isB t 4 ⟨#[105, 102]⟩ := by
  have h := sgn_word t ⟨#[105, 102]⟩ (by rw [listIf]; decide) (by rw [listIf]; decide)
  rw [listIf] at h
  exact h

theorem listThen : (ByteArray.mk #[116, 104, 101, 110]).toList = [116, 104, 101, 110] := by kernel_rfl
theorem sgnThen (t : TokZ) : ((sgn t).toList == [116, 104, 101, 110]) = isB t 4 ⟨#[116, 104, 101, 110]⟩ := by
  have h := sgn_word t ⟨#[116, 104, 101, 110]⟩ (by rw [listThen]; decide) (by rw [listThen]; decide)
  rw [listThen] at h
  exact h

theorem listElse : (ByteArray.mk #[101, 108, 115, 101]).toList = [101, 108, 115, 101] := by kernel_rfl
theorem sgnElse (t : TokZ) : ((sgn t).toList == [101, 108, 115, 101]) = isB t 4 ⟨#[101, 108, 115, 101]⟩ := by
  have h := sgn_word t ⟨#[101, 108, 115, 101]⟩ (by rw [listElse]; decide) (by rw [listElse]; decide)
  rw [listElse] at h
  exact h

theorem listCase : (ByteArray.mk #[99, 97, 115, 101]).toList = [99, 97, 115, 101] := by kernel_rfl
theorem sgnCase (t : TokZ) : ((sgn t).toList == [99, 97, 115, 101]) = isB t 4 ⟨#[99, 97, 115, 101]⟩ := by
  have h := sgn_word t ⟨#[99, 97, 115, 101]⟩ (by rw [listCase]; decide) (by rw [listCase]; decide)
  rw [listCase] at h
  exact h

theorem listOf : (ByteArray.mk #[111, 102]).toList = [111, 102] := by kernel_rfl
theorem sgnOf (t : TokZ) : ((sgn t).toList == [111, 102]) = isB t 4 ⟨#[111, 102]⟩ := by
  have h := sgn_word t ⟨#[111, 102]⟩ (by rw [listOf]; decide) (by rw [listOf]; decide)
  rw [listOf] at h
  exact h

theorem listWhere : (ByteArray.mk #[119, 104, 101, 114, 101]).toList = [119, 104, 101, 114, 101] := by kernel_rfl
theorem sgnWhere (t : TokZ) : ((sgn t).toList == [119, 104, 101, 114, 101]) = isB t 4 ⟨#[119, 104, 101, 114, 101]⟩ := by
  have h := sgn_word t ⟨#[119, 104, 101, 114, 101]⟩ (by rw [listWhere]; decide) (by rw [listWhere]; decide)
  rw [listWhere] at h
  exact h

theorem listShut : (ByteArray.mk #[125]).toList = [125] := by kernel_rfl
theorem sgnShut (t : TokZ) : ((sgn t).toList == [125]) = isB t 5 ⟨#[125]⟩ := by
  have h := sgn_mark t ⟨#[125]⟩ (by rw [listShut]; decide) (by rw [listShut]; decide)
  rw [listShut] at h
  exact h

theorem isB_other {t : TokZ} {k k2 : Int} {a b : ByteArray} (h : isB t k a = true) (hn : k ≠ k2 ∨ a.toList ≠ b.toList) : isB t k2 b = false := by
  unfold isB at h ⊢
  rw [Bool.and_eq_true] at h
  obtain ⟨h1, h2⟩ := h
  have e1 : t.k = k := by simpa using h1
  have e2 : t.s.toList = a.toList := by simpa using h2
  rw [e1, e2]
  rcases hn with hn | hn
  · simp [hn]
  · simp [hn]

set_option maxHeartbeats 2000000 in
set_option maxRecDepth 100000 in
theorem mustBe_any (t : TokZ) (w : World) :
    Calls Try.prog 67 #[aggZ t] w fun e w' => ∃ (m : Int) (b : Bool), e = .returned (.tuple #[.int .i64 m, .bool b]) ∧ ((b = true ∧ m = needZ t ∧ needZ t ≤ 0) ∨ (b = false ∧ needZ t = 1)) ∧ Below w.heap.size w w' := by
  have HX0 := hide (heap_alloc_new w (tokObj t))
  have HB0 : Hid (Below w.heap.size w (w.alloc (tokObj t))) := (Below.refl _ w).alloc (Nat.le_refl _) _
  unfold aggZ
  go_enter Try.func67, Try.ntmps67
  go_wp2_with fail
  rw [tok_eta2]
  refine (signOf_any t _).mono ?_
  rintro e w1 ⟨rfl, hb⟩
  have HB1 := hide (HB0.out.trans (hb.mono HB0.out.size))
  clear hb

  have hs0 := sgnRap t
  cases hI0 : isB t 5 ⟨#[41]⟩
  rotate_left
  · rw [hI0] at hs0
    have HI0 := hide hI0
    clear hI0
    go_wp2
    go_ret2
    have hN : needZ t = -1 := by unfold needZ; rw [HI0.out]; rfl
    exact ⟨-1, true, rfl, Or.inl ⟨rfl, hN.symm, by rw [hN]; decide⟩, HB1.out⟩
  rw [hI0] at hs0
  have HI0 := hide hI0
  clear hI0
  have hs1 := sgnIn t
  cases hI1 : isB t 4 ⟨#[105, 110]⟩
  rotate_left
  · rw [hI1] at hs1
    have HI1 := hide hI1
    clear hI1
    go_wp2
    go_ret2
    have hN : needZ t = -2 := by unfold needZ; rw [HI0.out, HI1.out]; rfl
    exact ⟨-2, true, rfl, Or.inl ⟨rfl, hN.symm, by rw [hN]; decide⟩, HB1.out⟩
  rw [hI1] at hs1
  have HI1 := hide hI1
  clear hI1
  have hs2 := sgnThen t
  cases hI2 : isB t 4 ⟨#[116, 104, 101, 110]⟩
  rotate_left
  · rw [hI2] at hs2
    have HI2 := hide hI2
    clear hI2
    go_wp2
    go_ret2
    have hN : needZ t = -4 := by unfold needZ; rw [HI0.out, HI1.out, HI2.out]; rfl
    exact ⟨-4, true, rfl, Or.inl ⟨rfl, hN.symm, by rw [hN]; decide⟩, HB1.out⟩
  rw [hI2] at hs2
  have HI2 := hide hI2
  clear hI2
  have hs3 := sgnElse t
  cases hI3 : isB t 4 ⟨#[101, 108, 115, 101]⟩
  rotate_left
  · rw [hI3] at hs3
    have HI3 := hide hI3
    clear hI3
    go_wp2
    go_ret2
    have hN : needZ t = -3 := by unfold needZ; rw [HI0.out, HI1.out, HI2.out, HI3.out]; rfl
    exact ⟨-3, true, rfl, Or.inl ⟨rfl, hN.symm, by rw [hN]; decide⟩, HB1.out⟩
  rw [hI3] at hs3
  have HI3 := hide hI3
  clear hI3
  have hs4 := sgnOf t
  cases hI4 : isB t 4 ⟨#[111, 102]⟩
  rotate_left
  · rw [hI4] at hs4
    have HI4 := hide hI4
    clear hI4
    go_wp2
    go_ret2
    have hN : needZ t = -5 := by unfold needZ; rw [HI0.out, HI1.out, HI2.out, HI3.out, HI4.out]; rfl
    exact ⟨-5, true, rfl, Or.inl ⟨rfl, hN.symm, by rw [hN]; decide⟩, HB1.out⟩
  rw [hI4] at hs4
  have HI4 := hide hI4
  clear hI4
  have hs5 := sgnShut t
  cases hI5 : isB t 5 ⟨#[125]⟩
  rotate_left
  · rw [hI5] at hs5
    have HI5 := hide hI5
    clear hI5
    go_wp2
    go_ret2
    have hN : needZ t = 0 := by unfold needZ; rw [HI0.out, HI1.out, HI2.out, HI3.out, HI4.out, HI5.out]; rfl
    exact ⟨0, true, rfl, Or.inl ⟨rfl, hN.symm, by rw [hN]; decide⟩, HB1.out⟩
  rw [hI5] at hs5
  have HI5 := hide hI5
  clear hI5
  go_wp2
  go_ret2
  have hN : needZ t = 1 := by unfold needZ; rw [HI0.out, HI1.out, HI2.out, HI3.out, HI4.out, HI5.out]; rfl
  exact ⟨0, false, rfl, Or.inr ⟨rfl, hN⟩, HB1.out⟩

set_option maxHeartbeats 2000000 in
set_option maxRecDepth 100000 in
theorem closesMargins_any (t : TokZ) (w : World) :
    Calls Try.prog 65 #[aggZ t] w fun e w' => e = .returned (.bool (closes t)) ∧ Below w.heap.size w w' := by
  have HX0 := hide (heap_alloc_new w (tokObj t))
  have HB0 : Hid (Below w.heap.size w (w.alloc (tokObj t))) := (Below.refl _ w).alloc (Nat.le_refl _) _
  unfold aggZ
  go_enter Try.func65, Try.ntmps65
  go_wp2_with fail
  rw [tok_eta2]
  refine (signOf_any t _).mono ?_
  rintro e w1 ⟨rfl, hb⟩
  have HB1 := hide (HB0.out.trans (hb.mono HB0.out.size))
  obtain ⟨x0, x1, x2, x3⟩ := tokObj_cells ((hb.block w.heap.size (heap_lt HX0.out)).trans HX0.out)
  clear hb

  have hs0 := sgnRap t
  cases hI0 : isB t 5 ⟨#[41]⟩
  rotate_left
  · rw [hI0] at hs0
    have HI0 := hide hI0
    clear hI0
    have HC : Hid (closes t = true) := by
      show closes t = true
      have hN : needZ t = -1 := by unfold needZ; rw [HI0.out]; rfl
      unfold closes
      rw [hN]
      rfl
    go_wp2
    go_ret
    exact ⟨by rw [HC.out]; rfl, HB1.out⟩
  rw [hI0] at hs0
  have HI0 := hide hI0
  clear hI0
  have hs1 := sgnIn t
  cases hI1 : isB t 4 ⟨#[105, 110]⟩
  rotate_left
  · rw [hI1] at hs1
    have HI1 := hide hI1
    clear hI1
    have HC : Hid (closes t = true) := by
      show closes t = true
      have hN : needZ t = -2 := by unfold needZ; rw [HI0.out, HI1.out]; rfl
      unfold closes
      rw [hN]
      rfl
    go_wp2
    go_ret
    exact ⟨by rw [HC.out]; rfl, HB1.out⟩
  rw [hI1] at hs1
  have HI1 := hide hI1
  clear hI1
  have hs2 := sgnThen t
  cases hI2 : isB t 4 ⟨#[116, 104, 101, 110]⟩
  rotate_left
  · rw [hI2] at hs2
    have HI2 := hide hI2
    clear hI2
    have HC : Hid (closes t = true) := by
      show closes t = true
      have hN : needZ t = -4 := by unfold needZ; rw [HI0.out, HI1.out, HI2.out]; rfl
      unfold closes
      rw [hN]
      rfl
    go_wp2
    go_ret
    exact ⟨by rw [HC.out]; rfl, HB1.out⟩
  rw [hI2] at hs2
  have HI2 := hide hI2
  clear hI2
  have hs3 := sgnElse t
  cases hI3 : isB t 4 ⟨#[101, 108, 115, 101]⟩
  rotate_left
  · rw [hI3] at hs3
    have HI3 := hide hI3
    clear hI3
    have HC : Hid (closes t = true) := by
      show closes t = true
      have hN : needZ t = -3 := by unfold needZ; rw [HI0.out, HI1.out, HI2.out, HI3.out]; rfl
      unfold closes
      rw [hN]
      rfl
    go_wp2
    go_ret
    exact ⟨by rw [HC.out]; rfl, HB1.out⟩
  rw [hI3] at hs3
  have HI3 := hide hI3
  clear hI3
  have hs4 := sgnOf t
  cases hI4 : isB t 4 ⟨#[111, 102]⟩
  rotate_left
  · rw [hI4] at hs4
    have HI4 := hide hI4
    clear hI4
    have HC : Hid (closes t = true) := by
      show closes t = true
      have hN : needZ t = -5 := by unfold needZ; rw [HI0.out, HI1.out, HI2.out, HI3.out, HI4.out]; rfl
      unfold closes
      rw [hN]
      rfl
    go_wp2
    go_ret
    exact ⟨by rw [HC.out]; rfl, HB1.out⟩
  rw [hI4] at hs4
  have HI4 := hide hI4
  clear hI4
  have HC : Hid (closes t = (t.k == 6)) := by
    show closes t = (t.k == 6)
    have hN : ¬ needZ t < 0 := by
      unfold needZ
      rw [HI0.out, HI1.out, HI2.out, HI3.out, HI4.out]
      simp only [Bool.false_eq_true, if_false]
      split <;> decide
    unfold closes
    simp [hN]
  go_wp2
  all_goals
    go_ret
    exact ⟨by rw [HC.out]; rfl, HB1.out⟩

theorem waitZ_yes {t : TokZ} (h : isB t 4 ⟨#[108, 101, 116]⟩ = true ∨ isB t 4 ⟨#[119, 104, 101, 114, 101]⟩ = true ∨ isB t 4 ⟨#[111, 102]⟩ = true) : waitZ t = true := by
  unfold waitZ
  rcases h with h | h | h
  · rw [h]; rfl
  · rw [h]; cases isB t 4 ⟨#[108, 101, 116]⟩ <;> rfl
  · rw [h]; cases isB t 4 ⟨#[108, 101, 116]⟩ <;> cases isB t 4 ⟨#[119, 104, 101, 114, 101]⟩ <;> rfl
theorem waitZ_no {t : TokZ} (h1 : isB t 4 ⟨#[108, 101, 116]⟩ = false) (h2 : isB t 4 ⟨#[119, 104, 101, 114, 101]⟩ = false) (h3 : isB t 4 ⟨#[111, 102]⟩ = false) : waitZ t = false := by
  unfold waitZ
  rw [h1, h2, h3]
  rfl
set_option maxHeartbeats 2000000 in
set_option maxRecDepth 100000 in
theorem openBehind_any {w : World} {K : Nat → Prop} {g : Nat} {out : List TokZ} {st : List Int} {line : Int} (t : TokZ) (h : ImplAt w K g out st false line) (hn : out.length + st.length ≤ 9000000) :
    Calls Try.prog 69 #[.pointer (some ⟨g, 0, none⟩), aggZ t] w fun e w' => e = .returned (.tuple #[]) ∧ ImplAt w' K g out (pushZ (opensZ t) st) (waitZ t) line ∧ Keeps K w w' := by
  have HK0 := hide (keeps_alloc w (tokObj t) (ImplAt.kw h))
  have HS0 := hide (ImplAt.less (ImplAt.box h (tokObj t)) (K := K) fun k hk => Or.inl hk)
  clear h
  unfold aggZ
  go_enter Try.func69, Try.ntmps69
  go_wp2_with fail
  rw [tok_eta2]
  refine (signOf_any t _).mono ?_
  rintro e w1 ⟨rfl, hb⟩
  have HS1 := hide (ImplAt.later HS0.out hb)
  have HK1 := hide (HK0.out.trans (keeps_of (K := K) hb (ImplAt.kw HS0.out)))
  clear hb

  have hs0 := sgnPar t
  cases hI0 : isB t 5 ⟨#[40]⟩
  rotate_left
  · rw [hI0] at hs0
    have HI0 := hide hI0
    clear hI0
    have HO : Hid (opensZ t = [-1]) := by show opensZ t = _; unfold opensZ; rw [HI0.out]; rfl
    have HW := hide (waitZ_no (isB_other HI0.out (Or.inl (by decide))) (isB_other HI0.out (Or.inl (by decide))) (isB_other HI0.out (Or.inl (by decide))))
    go_wp2_with fail
    refine (push_any (-1) HS1.out (by first | omega | (rw [List.length_cons]; omega))).mono ?_
    rintro e v0 ⟨rfl, hs, hk⟩
    have HP0 := hide hs
    have HQ0 := hide (HK1.out.trans hk)
    clear hs hk
    go_wp2
    go_end0
    refine ⟨rfl, ?_, HQ0.out⟩
    rw [HO.out, HW.out]
    exact HP0.out
  rw [hI0] at hs0
  have HI0 := hide hI0
  clear hI0
  have hs1 := sgnLet t
  cases hI1 : isB t 4 ⟨#[108, 101, 116]⟩
  rotate_left
  · rw [hI1] at hs1
    have HI1 := hide hI1
    clear hI1
    have HO : Hid (opensZ t = [-2]) := by show opensZ t = _; unfold opensZ; rw [HI0.out, HI1.out]; rfl
    have HW := hide (waitZ_yes (Or.inl HI1.out))
    go_wp2_with fail
    refine (push_any (-2) HS1.out (by first | omega | (rw [List.length_cons]; omega))).mono ?_
    rintro e v0 ⟨rfl, hs, hk⟩
    have HP0 := hide hs
    have HQ0 := hide (HK1.out.trans hk)
    clear hs hk
    obtain ⟨o0, n0, o1, n1, -, g1, -, -, -, -, gf⟩ := ImplAt.facts HP0.out
    have gf1 := gf 1
    clear gf
    go_wp2
    go_end0
    obtain ⟨h1, h2⟩ := ImplAt.setWait HP0.out true
    refine ⟨rfl, ?_, HQ0.out.trans h2⟩
    rw [HO.out, HW.out]
    exact h1
  rw [hI1] at hs1
  have HI1 := hide hI1
  clear hI1
  have hs2 := sgnIf t
  cases hI2 : isB t 4 ⟨#[105, 102]⟩
  rotate_left
  · rw [hI2] at hs2
    have HI2 := hide hI2
    clear hI2
    have HO : Hid (opensZ t = [-3, -4]) := by show opensZ t = _; unfold opensZ; rw [HI0.out, HI1.out, HI2.out]; rfl
    have HW := hide (waitZ_no HI1.out (isB_other HI2.out (Or.inr (by rw [listIf, listWhere]; decide))) (isB_other HI2.out (Or.inr (by rw [listIf, listOf]; decide))))
    go_wp2_with fail
    refine (push_any (-3) HS1.out (by first | omega | (rw [List.length_cons]; omega))).mono ?_
    rintro e v0 ⟨rfl, hs, hk⟩
    have HP0 := hide hs
    have HQ0 := hide (HK1.out.trans hk)
    clear hs hk
    go_wp2_with fail
    refine (push_any (-4) HP0.out (by first | omega | (rw [List.length_cons]; omega))).mono ?_
    rintro e v1 ⟨rfl, hs, hk⟩
    have HP1 := hide hs
    have HQ1 := hide (HQ0.out.trans hk)
    clear hs hk
    go_wp2
    go_end0
    refine ⟨rfl, ?_, HQ1.out⟩
    rw [HO.out, HW.out]
    exact HP1.out
  rw [hI2] at hs2
  have HI2 := hide hI2
  clear hI2
  have hs3 := sgnCase t
  cases hI3 : isB t 4 ⟨#[99, 97, 115, 101]⟩
  rotate_left
  · rw [hI3] at hs3
    have HI3 := hide hI3
    clear hI3
    have HO : Hid (opensZ t = [-5]) := by show opensZ t = _; unfold opensZ; rw [HI0.out, HI1.out, HI2.out, HI3.out]; rfl
    have HW := hide (waitZ_no HI1.out (isB_other HI3.out (Or.inr (by rw [listCase, listWhere]; decide))) (isB_other HI3.out (Or.inr (by rw [listCase, listOf]; decide))))
    go_wp2_with fail
    refine (push_any (-5) HS1.out (by first | omega | (rw [List.length_cons]; omega))).mono ?_
    rintro e v0 ⟨rfl, hs, hk⟩
    have HP0 := hide hs
    have HQ0 := hide (HK1.out.trans hk)
    clear hs hk
    go_wp2
    go_end0
    refine ⟨rfl, ?_, HQ0.out⟩
    rw [HO.out, HW.out]
    exact HP0.out
  rw [hI3] at hs3
  have HI3 := hide hI3
  clear hI3
  have hs4 := sgnWhere t
  cases hI4 : isB t 4 ⟨#[119, 104, 101, 114, 101]⟩
  rotate_left
  · rw [hI4] at hs4
    have HI4 := hide hI4
    clear hI4
    have HO : Hid (opensZ t = []) := by show opensZ t = _; unfold opensZ; rw [HI0.out, HI1.out, HI2.out, HI3.out]; rfl
    have HW := hide (waitZ_yes (Or.inr (Or.inl HI4.out)))
    obtain ⟨o0, n0, o1, n1, -, g1, -, -, -, -, gf⟩ := ImplAt.facts HS1.out
    have gf1 := gf 1
    clear gf
    go_wp2
    go_end0
    obtain ⟨h1, h2⟩ := ImplAt.setWait HS1.out true
    refine ⟨rfl, ?_, HK1.out.trans h2⟩
    rw [HO.out, HW.out]
    exact h1
  rw [hI4] at hs4
  have HI4 := hide hI4
  clear hI4
  have hs5 := sgnOf t
  cases hI5 : isB t 4 ⟨#[111, 102]⟩
  rotate_left
  · rw [hI5] at hs5
    have HI5 := hide hI5
    clear hI5
    have HO : Hid (opensZ t = []) := by show opensZ t = _; unfold opensZ; rw [HI0.out, HI1.out, HI2.out, HI3.out]; rfl
    have HW := hide (waitZ_yes (Or.inr (Or.inr HI5.out)))
    obtain ⟨o0, n0, o1, n1, -, g1, -, -, -, -, gf⟩ := ImplAt.facts HS1.out
    have gf1 := gf 1
    clear gf
    go_wp2
    go_end0
    obtain ⟨h1, h2⟩ := ImplAt.setWait HS1.out true
    refine ⟨rfl, ?_, HK1.out.trans h2⟩
    rw [HO.out, HW.out]
    exact h1
  rw [hI5] at hs5
  have HI5 := hide hI5
  clear hI5
  have HO : Hid (opensZ t = []) := by show opensZ t = _; unfold opensZ; rw [HI0.out, HI1.out, HI2.out, HI3.out]; rfl
  have HW := hide (waitZ_no HI1.out HI4.out HI5.out)
  go_wp2
  go_end0
  refine ⟨rfl, ?_, HK1.out⟩
  rw [HO.out, HW.out]
  exact HS1.out

end Go.Proofs.Ytfcgfinohhhpiai.I
