import Derived.Test.YtfomndilhlgikajGreatDoorP15
set_option maxHeartbeats 8000000
set_option maxRecDepth 100000
namespace Go.Proofs.YtfomndilhlgikajGreatDoor.I
open Go.RowKit Go.Proofs.YtfomndilhlgikajGreatDoor
theorem sn : (ByteArray.mk #[40]).toList = [40] := by kernel_rfl
theorem GZ (t : TokZ) : ((te t).toList == [40]) = dq t 5 ⟨#[40]⟩ := by
 have h := mr t ⟨#[40]⟩ (by rw [sn]; decide) (by rw [sn]; decide)
 rw [sn] at h
 exact h
theorem sR : (ByteArray.mk #[41]).toList = [41] := by kernel_rfl
theorem AL (t : TokZ) : ((te t).toList == [41]) = dq t 5 ⟨#[41]⟩ := by
 have h := mr t ⟨#[41]⟩ (by rw [sR]; decide) (by rw [sR]; decide)
 rw [sR] at h
 exact h
theorem sf : (ByteArray.mk #[108, 101, 116]).toList = [108, 101, 116] := by kernel_rfl
theorem GJ (t : TokZ) : ((te t).toList == [108, 101, 116]) = dq t 4 ⟨#[108, 101, 116]⟩ := by
 have h := gc t ⟨#[108, 101, 116]⟩ (by rw [sf]; decide) (by rw [sf]; decide)
 rw [sf] at h
 exact h
theorem wz : (ByteArray.mk #[105, 110]).toList = [105, 110] := by kernel_rfl
theorem Fi (t : TokZ) : ((te t).toList == [105, 110]) = dq t 4 ⟨#[105, 110]⟩ := by
 have h := gc t ⟨#[105, 110]⟩ (by rw [wz]; decide) (by rw [wz]; decide)
 rw [wz] at h
 exact h
theorem pH : (ByteArray.mk #[105, 102]).toList = [105, 102] := by kernel_rfl
theorem JR (t : TokZ) : ((te t).toList == [105, 102]) = dq t 4 ⟨#[105, 102]⟩ := by
 have h := gc t ⟨#[105, 102]⟩ (by rw [pH]; decide) (by rw [pH]; decide)
 rw [pH] at h
 exact h
theorem oU : (ByteArray.mk #[116, 104, 101, 110]).toList = [116, 104, 101, 110] := by kernel_rfl
theorem xu (t : TokZ) : ((te t).toList == [116, 104, 101, 110]) = dq t 4 ⟨#[116, 104, 101, 110]⟩ := by
 have h := gc t ⟨#[116, 104, 101, 110]⟩ (by rw [oU]; decide) (by rw [oU]; decide)
 rw [oU] at h
 exact h
theorem pL : (ByteArray.mk #[101, 108, 115, 101]).toList = [101, 108, 115, 101] := by kernel_rfl
theorem xx (t : TokZ) : ((te t).toList == [101, 108, 115, 101]) = dq t 4 ⟨#[101, 108, 115, 101]⟩ := by
 have h := gc t ⟨#[101, 108, 115, 101]⟩ (by rw [pL]; decide) (by rw [pL]; decide)
 rw [pL] at h
 exact h
theorem kC : (ByteArray.mk #[99, 97, 115, 101]).toList = [99, 97, 115, 101] := by kernel_rfl
theorem Ev (t : TokZ) : ((te t).toList == [99, 97, 115, 101]) = dq t 4 ⟨#[99, 97, 115, 101]⟩ := by
 have h := gc t ⟨#[99, 97, 115, 101]⟩ (by rw [kC]; decide) (by rw [kC]; decide)
 rw [kC] at h
 exact h
theorem ph : (ByteArray.mk #[111, 102]).toList = [111, 102] := by kernel_rfl
theorem Bj (t : TokZ) : ((te t).toList == [111, 102]) = dq t 4 ⟨#[111, 102]⟩ := by
 have h := gc t ⟨#[111, 102]⟩ (by rw [ph]; decide) (by rw [ph]; decide)
 rw [ph] at h
 exact h
theorem jd : (ByteArray.mk #[119, 104, 101, 114, 101]).toList = [119, 104, 101, 114, 101] := by kernel_rfl
theorem zI (t : TokZ) : ((te t).toList == [119, 104, 101, 114, 101]) = dq t 4 ⟨#[119, 104, 101, 114, 101]⟩ := by
 have h := gc t ⟨#[119, 104, 101, 114, 101]⟩ (by rw [jd]; decide) (by rw [jd]; decide)
 rw [jd] at h
 exact h
theorem oS : (ByteArray.mk #[125]).toList = [125] := by kernel_rfl
theorem DI (t : TokZ) : ((te t).toList == [125]) = dq t 5 ⟨#[125]⟩ := by
 have h := mr t ⟨#[125]⟩ (by rw [oS]; decide) (by rw [oS]; decide)
 rw [oS] at h
 exact h
theorem fT {t : TokZ} {k k2 : Int} {a b : ByteArray} (h : dq t k a = true) (hn : k ≠ k2 \/ a.toList ≠ b.toList) : dq t k2 b = false := by
 unfold dq at h ⊢
 rw [Bool.and_eq_true] at h
 obtain ⟨h1, h2⟩ := h
 have e1 : t.k = k := by simpa using h1
 have e2 : t.s.toList = a.toList := by simpa using h2
 rw [e1, e2]
 rcases hn with hn | hn
 ·simp [hn]
 ·simp [hn]
theorem wg (t : TokZ) (w : World) :
 Calls Tryz.prog 248 #[fS t] w fun e w' => ∃ (m : Int) (b : Bool), e = .returned (.tuple #[.int .i64 m, .bool b]) /\ ((b = true /\ m = bi t /\ bi t <= 0) \/ (b = false /\ bi t = 1)) /\ Below w.heap.size w w' := by
 have aF := aa (heap_alloc_new w (aN t))
 have aq : Hid (Below w.heap.size w (w.alloc (aN t))) := (U4 w).alloc U0 _
 unfold fS
 go_enter Tryz.func248, Tryz.ntmps248
 go_wp2_with fail
 rw [aU]
 refine (jz t _).mono ?_
 rintro e w1 ⟨rfl, hb⟩
 have aR := aa (aq.out.trans (hb.mono aq.out.size))
 clear hb
 have Fv := AL t
 cases hI0 : dq t 5 ⟨#[41]⟩
 rotate_left
 ·rw [hI0] at Fv
  have li := aa hI0
  clear hI0
  go_wp2
  go_ret2
  have hN : bi t = -1 := by unfold bi; rw [li.out]; rfl
  exact ⟨-1, true, rfl, Or.inl ⟨rfl, hN.symm, by rw [hN]; decide⟩, aR.out⟩
 rw [hI0] at Fv
 have li := aa hI0
 clear hI0
 have gC := Fi t
 cases hI1 : dq t 4 ⟨#[105, 110]⟩
 rotate_left
 ·rw [hI1] at gC
  have iV := aa hI1
  clear hI1
  go_wp2
  go_ret2
  have hN : bi t = -2 := by unfold bi; rw [li.out, iV.out]; rfl
  exact ⟨-2, true, rfl, Or.inl ⟨rfl, hN.symm, by rw [hN]; decide⟩, aR.out⟩
 rw [hI1] at gC
 have iV := aa hI1
 clear hI1
 have jr := xu t
 cases hI2 : dq t 4 ⟨#[116, 104, 101, 110]⟩
 rotate_left
 ·rw [hI2] at jr
  have iO := aa hI2
  clear hI2
  go_wp2
  go_ret2
  have hN : bi t = -4 := by unfold bi; rw [li.out, iV.out, iO.out]; rfl
  exact ⟨-4, true, rfl, Or.inl ⟨rfl, hN.symm, by rw [hN]; decide⟩, aR.out⟩
 rw [hI2] at jr
 have iO := aa hI2
 clear hI2
 have eP := xx t
 cases hI3 : dq t 4 ⟨#[101, 108, 115, 101]⟩
 rotate_left
 ·rw [hI3] at eP
  have mg := aa hI3
  clear hI3
  go_wp2
  go_ret2
  have hN : bi t = -3 := by unfold bi; rw [li.out, iV.out, iO.out, mg.out]; rfl
  exact ⟨-3, true, rfl, Or.inl ⟨rfl, hN.symm, by rw [hN]; decide⟩, aR.out⟩
 rw [hI3] at eP
 have mg := aa hI3
 clear hI3
 have ip := Bj t
 cases p7 : dq t 4 ⟨#[111, 102]⟩
 rotate_left
 ·rw [p7] at ip
  have qi := aa p7
  clear p7
  go_wp2
  go_ret2
  have hN : bi t = -5 := by unfold bi; rw [li.out, iV.out, iO.out, mg.out, qi.out]; rfl
  exact ⟨-5, true, rfl, Or.inl ⟨rfl, hN.symm, by rw [hN]; decide⟩, aR.out⟩
 rw [p7] at ip
 have qi := aa p7
 clear p7
 have jm := DI t
 cases hI5 : dq t 5 ⟨#[125]⟩
 rotate_left
 ·rw [hI5] at jm
  have zH := aa hI5
  clear hI5
  go_wp2
  go_ret2
  have hN : bi t = 0 := by unfold bi; rw [li.out, iV.out, iO.out, mg.out, qi.out, zH.out]; rfl
  exact ⟨0, true, rfl, Or.inl ⟨rfl, hN.symm, by rw [hN]; decide⟩, aR.out⟩
 rw [hI5] at jm
 have zH := aa hI5
 clear hI5
 go_wp2
 go_ret2
 have hN : bi t = 1 := by unfold bi; rw [li.out, iV.out, iO.out, mg.out, qi.out, zH.out]; rfl
 exact ⟨0, false, rfl, Or.inr ⟨rfl, hN⟩, aR.out⟩
theorem mj (t : TokZ) (w : World) :
 Calls Tryz.prog 246 #[fS t] w fun e w' => e = .returned (.bool (bT t)) /\ Below w.heap.size w w' := by
 have aF := aa (heap_alloc_new w (aN t))
 have aq : Hid (Below w.heap.size w (w.alloc (aN t))) := (U4 w).alloc U0 _
 unfold fS
 go_enter Tryz.func246, Tryz.ntmps246
 go_wp2_with fail
 rw [aU]
 refine (jz t _).mono ?_
 rintro e w1 ⟨rfl, hb⟩
 have aR := aa (aq.out.trans (hb.mono aq.out.size))
 obtain ⟨x0, x1, x2, x3⟩ := aA ((hb.block w.heap.size (ad aF.out)).trans aF.out)
 clear hb
 have Fv := AL t
 cases hI0 : dq t 5 ⟨#[41]⟩
 rotate_left
 ·rw [hI0] at Fv
  have li := aa hI0
  clear hI0
  have HC : Hid (bT t = true) := by
   show bT t = true
   have hN : bi t = -1 := by unfold bi; rw [li.out]; rfl
   unfold bT
   rw [hN]
   rfl
  go_wp2
  go_ret
  exact ⟨by rw [HC.out]; rfl, aR.out⟩
 rw [hI0] at Fv
 have li := aa hI0
 clear hI0
 have gC := Fi t
 cases hI1 : dq t 4 ⟨#[105, 110]⟩
 rotate_left
 ·rw [hI1] at gC
  have iV := aa hI1
  clear hI1
  have HC : Hid (bT t = true) := by
   show bT t = true
   have hN : bi t = -2 := by unfold bi; rw [li.out, iV.out]; rfl
   unfold bT
   rw [hN]
   rfl
  go_wp2
  go_ret
  exact ⟨by rw [HC.out]; rfl, aR.out⟩
 rw [hI1] at gC
 have iV := aa hI1
 clear hI1
 have jr := xu t
 cases hI2 : dq t 4 ⟨#[116, 104, 101, 110]⟩
 rotate_left
 ·rw [hI2] at jr
  have iO := aa hI2
  clear hI2
  have HC : Hid (bT t = true) := by
   show bT t = true
   have hN : bi t = -4 := by unfold bi; rw [li.out, iV.out, iO.out]; rfl
   unfold bT
   rw [hN]
   rfl
  go_wp2
  go_ret
  exact ⟨by rw [HC.out]; rfl, aR.out⟩
 rw [hI2] at jr
 have iO := aa hI2
 clear hI2
 have eP := xx t
 cases hI3 : dq t 4 ⟨#[101, 108, 115, 101]⟩
 rotate_left
 ·rw [hI3] at eP
  have mg := aa hI3
  clear hI3
  have HC : Hid (bT t = true) := by
   show bT t = true
   have hN : bi t = -3 := by unfold bi; rw [li.out, iV.out, iO.out, mg.out]; rfl
   unfold bT
   rw [hN]
   rfl
  go_wp2
  go_ret
  exact ⟨by rw [HC.out]; rfl, aR.out⟩
 rw [hI3] at eP
 have mg := aa hI3
 clear hI3
 have ip := Bj t
 cases p7 : dq t 4 ⟨#[111, 102]⟩
 rotate_left
 ·rw [p7] at ip
  have qi := aa p7
  clear p7
  have HC : Hid (bT t = true) := by
   show bT t = true
   have hN : bi t = -5 := by unfold bi; rw [li.out, iV.out, iO.out, mg.out, qi.out]; rfl
   unfold bT
   rw [hN]
   rfl
  go_wp2
  go_ret
  exact ⟨by rw [HC.out]; rfl, aR.out⟩
 rw [p7] at ip
 have qi := aa p7
 clear p7
 have HC : Hid (bT t = (t.k == 6)) := by
  show bT t = (t.k == 6)
  have hN : ¬ bi t < 0 := by
   unfold bi
   rw [li.out, iV.out, iO.out, mg.out, qi.out]
   simp only [Bool.false_eq_true, if_false]
   split <;> decide
  unfold bT
  simp [hN]
 go_wp2
 all_goals
  go_ret
  exact ⟨by rw [HC.out]; rfl, aR.out⟩
theorem nj {t : TokZ} (h : dq t 4 ⟨#[108, 101, 116]⟩ = true \/ dq t 4 ⟨#[119, 104, 101, 114, 101]⟩ = true \/ dq t 4 ⟨#[111, 102]⟩ = true) : je t = true := by
 unfold je
 rcases h with h | h | h
 ·rw [h]; rfl
 ·rw [h]; cases dq t 4 ⟨#[108, 101, 116]⟩ <;> rfl
 ·rw [h]; cases dq t 4 ⟨#[108, 101, 116]⟩ <;> cases dq t 4 ⟨#[119, 104, 101, 114, 101]⟩ <;> rfl
theorem my {t : TokZ} (h1 : dq t 4 ⟨#[108, 101, 116]⟩ = false) (h2 : dq t 4 ⟨#[119, 104, 101, 114, 101]⟩ = false) (h3 : dq t 4 ⟨#[111, 102]⟩ = false) : je t = false := by
 unfold je
 rw [h1, h2, h3]
 rfl
theorem kd {w : World} {K : Nat -> Prop} {g : Nat} {out : List TokZ} {st : List Int} {line : Int} (t : TokZ) (h : ImplAt w K g out st false line) (hn : out.length + st.length <= 9000000) :
 Calls Tryz.prog 250 #[.pointer (some ⟨g, 0, none⟩), fS t] w fun e w' => e = .returned (.tuple #[]) /\ ImplAt w' K g out (fr (bp t) st) (je t) line /\ Keeps K w w' := by
 have qM := aa (bH w (aN t) (ImplAt.kw h))
 have kH := aa (ImplAt.less (ImplAt.box h (aN t)) (K := K) fun k hk => Or.inl hk)
 clear h
 unfold fS
 go_enter Tryz.func250, Tryz.ntmps250
 go_wp2_with fail
 rw [aU]
 refine (jz t _).mono ?_
 rintro e w1 ⟨rfl, hb⟩
 have eI := aa (ImplAt.later kH.out hb)
 have ez := aa (qM.out.trans (cJ (K := K) hb (ImplAt.kw kH.out)))
 clear hb
 have Fv := GZ t
 cases hI0 : dq t 5 ⟨#[40]⟩
 rotate_left
 ·rw [hI0] at Fv
  have li := aa hI0
  clear hI0
  have HO : Hid (bp t = [-1]) := by show bp t = _; unfold bp; rw [li.out]; rfl
  have HW := aa (my (fT li.out (Or.inl (by decide))) (fT li.out (Or.inl (by decide))) (fT li.out (Or.inl (by decide))))
  go_wp2_with fail
  refine (ii (-1) eI.out (by first | omega | (rw [List.length_cons]; omega))).mono ?_
  rintro e v0 ⟨rfl, hs, hk⟩
  have Fk := aa hs
  have DD := aa (ez.out.trans hk)
  clear hs hk
  go_wp2
  go_end0
  refine ⟨rfl, ?_, DD.out⟩
  rw [HO.out, HW.out]
  exact Fk.out
 rw [hI0] at Fv
 have li := aa hI0
 clear hI0
 have gC := GJ t
 cases hI1 : dq t 4 ⟨#[108, 101, 116]⟩
 rotate_left
 ·rw [hI1] at gC
  have iV := aa hI1
  clear hI1
  have HO : Hid (bp t = [-2]) := by show bp t = _; unfold bp; rw [li.out, iV.out]; rfl
  have HW := aa (nj (Or.inl iV.out))
  go_wp2_with fail
  refine (ii (-2) eI.out (by first | omega | (rw [List.length_cons]; omega))).mono ?_
  rintro e v0 ⟨rfl, hs, hk⟩
  have Fk := aa hs
  have DD := aa (ez.out.trans hk)
  clear hs hk
  obtain ⟨o0, n0, o1, n1, -, g1, -, -, -, -, gf⟩ := ImplAt.facts Fk.out
  have QH := gf 1
  clear gf
  go_wp2
  go_end0
  obtain ⟨h1, h2⟩ := ImplAt.setWait Fk.out true
  refine ⟨rfl, ?_, DD.out.trans h2⟩
  rw [HO.out, HW.out]
  exact h1
 rw [hI1] at gC
 have iV := aa hI1
 clear hI1
 have jr := JR t
 cases hI2 : dq t 4 ⟨#[105, 102]⟩
 rotate_left
 ·rw [hI2] at jr
  have iO := aa hI2
  clear hI2
  have HO : Hid (bp t = [-3, -4]) := by show bp t = _; unfold bp; rw [li.out, iV.out, iO.out]; rfl
  have HW := aa (my iV.out (fT iO.out (Or.inr (by rw [pH, jd]; decide))) (fT iO.out (Or.inr (by rw [pH, ph]; decide))))
  go_wp2_with fail
  refine (ii (-3) eI.out (by first | omega | (rw [List.length_cons]; omega))).mono ?_
  rintro e v0 ⟨rfl, hs, hk⟩
  have Fk := aa hs
  have DD := aa (ez.out.trans hk)
  clear hs hk
  go_wp2_with fail
  refine (ii (-4) Fk.out (by first | omega | (rw [List.length_cons]; omega))).mono ?_
  rintro e v1 ⟨rfl, hs, hk⟩
  have Ic := aa hs
  have xJ := aa (DD.out.trans hk)
  clear hs hk
  go_wp2
  go_end0
  refine ⟨rfl, ?_, xJ.out⟩
  rw [HO.out, HW.out]
  exact Ic.out
 rw [hI2] at jr
 have iO := aa hI2
 clear hI2
 have eP := Ev t
 cases hI3 : dq t 4 ⟨#[99, 97, 115, 101]⟩
 rotate_left
 ·rw [hI3] at eP
  have mg := aa hI3
  clear hI3
  have HO : Hid (bp t = [-5]) := by show bp t = _; unfold bp; rw [li.out, iV.out, iO.out, mg.out]; rfl
  have HW := aa (my iV.out (fT mg.out (Or.inr (by rw [kC, jd]; decide))) (fT mg.out (Or.inr (by rw [kC, ph]; decide))))
  go_wp2_with fail
  refine (ii (-5) eI.out (by first | omega | (rw [List.length_cons]; omega))).mono ?_
  rintro e v0 ⟨rfl, hs, hk⟩
  have Fk := aa hs
  have DD := aa (ez.out.trans hk)
  clear hs hk
  go_wp2
  go_end0
  refine ⟨rfl, ?_, DD.out⟩
  rw [HO.out, HW.out]
  exact Fk.out
 rw [hI3] at eP
 have mg := aa hI3
 clear hI3
 have ip := zI t
 cases p7 : dq t 4 ⟨#[119, 104, 101, 114, 101]⟩
 rotate_left
 ·rw [p7] at ip
  have qi := aa p7
  clear p7
  have HO : Hid (bp t = []) := by show bp t = _; unfold bp; rw [li.out, iV.out, iO.out, mg.out]; rfl
  have HW := aa (nj (Or.inr (Or.inl qi.out)))
  obtain ⟨o0, n0, o1, n1, -, g1, -, -, -, -, gf⟩ := ImplAt.facts eI.out
  have QH := gf 1
  clear gf
  go_wp2
  go_end0
  obtain ⟨h1, h2⟩ := ImplAt.setWait eI.out true
  refine ⟨rfl, ?_, ez.out.trans h2⟩
  rw [HO.out, HW.out]
  exact h1
 rw [p7] at ip
 have qi := aa p7
 clear p7
 have jm := Bj t
 cases hI5 : dq t 4 ⟨#[111, 102]⟩
 rotate_left
 ·rw [hI5] at jm
  have zH := aa hI5
  clear hI5
  have HO : Hid (bp t = []) := by show bp t = _; unfold bp; rw [li.out, iV.out, iO.out, mg.out]; rfl
  have HW := aa (nj (Or.inr (Or.inr zH.out)))
  obtain ⟨o0, n0, o1, n1, -, g1, -, -, -, -, gf⟩ := ImplAt.facts eI.out
  have QH := gf 1
  clear gf
  go_wp2
  go_end0
  obtain ⟨h1, h2⟩ := ImplAt.setWait eI.out true
  refine ⟨rfl, ?_, ez.out.trans h2⟩
  rw [HO.out, HW.out]
  exact h1
 rw [hI5] at jm
 have zH := aa hI5
 clear hI5
 have HO : Hid (bp t = []) := by show bp t = _; unfold bp; rw [li.out, iV.out, iO.out, mg.out]; rfl
 have HW := aa (my iV.out qi.out zH.out)
 go_wp2
 go_end0
 refine ⟨rfl, ?_, ez.out⟩
 rw [HO.out, HW.out]
 exact eI.out
def aT (st : List Int) (out : List TokZ) (t : TokZ) : List Int × List TokZ := if bT t = true then bk 0 st out else (st, out)
theorem kt (st : List Int) (out : List TokZ) (t : TokZ) : (aT st out t).1.length + (aT st out t).2.length = st.length + out.length := by
 unfold aT
 split
 ·exact ig 0 st out
 ·rfl
theorem nw (t : TokZ) : -5 <= bi t := by
 unfold bi
 repeat' split
 all_goals decide
theorem oZ {st : List Int} {out : List TokZ} {t : TokZ} {h : Int} {r : List Int} {o : List TokZ} (hc : aT st out t = (h :: r, o)) (hN : bi t <= 0) (hh : h = bi t) : fP st out t = some (fr (bp t) r, o ++ [t], je t) := by
 unfold aT at hc
 unfold fP
 simp only
 rw [hc, if_pos hN]
 simp only
 rw [if_pos hh]
theorem pg {st : List Int} {out : List TokZ} {t : TokZ} {s : List Int} {o : List TokZ} (hc : aT st out t = (s, o)) (hN : bi t <= 0) (hh : ¬ s.head?.getD (-9) = bi t) : fP st out t = none := by
 unfold aT at hc
 unfold fP
 simp only
 rw [hc, if_pos hN]
 cases s with
 | nil => rfl
 | cons x r =>
  simp only
  rw [if_neg (show ¬ x = bi t from hh)]
theorem lR {st : List Int} {out : List TokZ} {t : TokZ} {s : List Int} {o : List TokZ} (hc : aT st out t = (s, o)) (hN : ¬ bi t <= 0) : fP st out t = some (fr (bp t) s, o ++ [t], je t) := by
 unfold aT at hc
 unfold fP
 simp only
 rw [hc, if_neg hN]
theorem np {st : List Int} {x : Int} (h : st.head?.getD (-9) = x) (hx : x ≠ -9) : ∃ r, st = x :: r := by
 cases st with
 | nil => exact absurd h.symm hx
 | cons y r => exact ⟨r, by rw [show y = x from h]⟩
theorem pS (l st : List Int) (i : Nat) (n : Int) (h : l[i]? = some n) : n :: fr (l.take i) st = fr (l.take (i + 1)) st := by
 unfold fr
 rw [List.take_add_one, h]
 simp
def Ew (t : TokZ) (line : Int) : Bool := decide (line < t.l) && !(t.k == 6)
def Fg (st : List Int) (out : List TokZ) (t : TokZ) (nl : Bool) : Option (List Int × List TokZ × Bool) :=
 let p := if nl = true then cB st out t else (st, out)
 fP p.1 p.2 t
theorem tC (st : List Int) (out : List TokZ) (t : TokZ) (line : Int) : gH st out t line = Fg st out t (Ew t line) := rfl
theorem DK {st : List Int} {out : List TokZ} {t : TokZ} {s : List Int} {o : List TokZ} (hc : aT st out t = (s, o)) (hN : bi t <= 0) (hh : s.head? ≠ some (bi t)) : fP st out t = none := by
 refine pg hc hN ?_
 cases s with
 | nil =>
  intro h
  have h2 : (-9 : Int) = bi t := h
  have := nw t
  omega
 | cons x r =>
  intro h
  exact hh (by rw [<- h]; rfl)
theorem ImplAt.same {w : World} {K : Nat -> Prop} {g : Nat} {out out' : List TokZ} {st st' : List Int} {wait : Bool} {line : Int} (h : ImplAt w K g out st wait line) (e1 : out = out') (e2 : st = st') : ImplAt w K g out' st' wait line := by
 rw [<- e1, <- e2]
 exact h
theorem Br {w : World} {K : Nat -> Prop} {g : Nat} {out : List TokZ} {st : List Int} {wait : Bool} {line : Int} (t : TokZ) (cI : t.s.size <= 1048576) (h : ImplAt w K g out st wait line) (hn : out.length + st.length <= 7000000) :
 Calls Tryz.prog 187 #[.pointer (some ⟨g, 0, none⟩), fS t] w fun e w' => (∃ a b c, fd st out wait t line = some (a, b, c) /\ e = .returned (.bool true) /\ ImplAt w' K g b a c t.l /\ Keeps K w w') \/ (fd st out wait t line = none /\ e = .returned (.bool false) /\ Keeps K w w') := by
 have oI := ImplAt.gw h
 have qM := aa (bH w (aN t) (ImplAt.kw h))
 have kH := aa (ImplAt.box h (aN t))
 have aF := aa (heap_alloc_new w (aN t))
 obtain ⟨o0, n0, o1, n1, -, g1, g2, -, -, -, gf⟩ := ImplAt.facts h
 clear h gf g1
 unfold fS
 go_enter Tryz.func187, Tryz.ntmps187
 go_upto_region 1 with fail
 go_cut [5] (fun v5 wc => v5 = .bool (Ew t line) /\ ImplAt wc (fun k => K k \/ k = w.heap.size) g out st wait line /\ Keeps K w wc /\ wc.heap[w.heap.size]? = some (aN t))
 case first =>
  have FA : Hid (Ew t line = (decide (line < t.l) && !(t.k == 6))) := rfl
  cases h6 : (t.k == 6)
  ·have Fu : (t.k != 6) = true := by rw [bne, h6]; rfl
   rw [h6] at FA
   go_quiet (fail)
   go_wp2_with fail
   go_meet
   case rel =>
    refine ⟨?_, ImplAt.drewN kH.out _, Keeps.drewN qM.out _, aF.out⟩
    rw [FA.out]
    simp
  ·have Fu : (t.k != 6) = false := by rw [bne, h6]; rfl
   rw [h6] at FA
   go_quiet (fail)
   go_wp2_with fail
   go_meet
   case rel =>
    refine ⟨?_, ImplAt.drewN kH.out _, Keeps.drewN qM.out _, aF.out⟩
    rw [FA.out]
    simp
 case rest =>
  obtain ⟨rfl, hSc, hKc, hXc⟩ := hcut
  obtain ⟨p0, q0, p1, q1, -, -, g2c, -, -, -, gf⟩ := ImplAt.facts hSc
  have Tw := gf 2
  obtain ⟨x0, x1, x2, x3⟩ := aA hXc
  have uU : g ≠ w.heap.size := by omega
  obtain ⟨Dx, hK1⟩ := ImplAt.setLine hSc t.l
  have eI := aa Dx
  have ez := aa (hKc.trans (hK1.mono fun k hk => Or.inl hk))
  have aK : Hid ((wc.setCell ⟨g, 2, none⟩ (.int .i64 t.l)).heap[w.heap.size]? = some (aN t)) := (az _ (Ne.symm uU)).trans hXc
  obtain ⟨p2, q2, p3, q3, -, w1c, -, -, -, -, gf'⟩ := ImplAt.facts Dx
  have NM := aa w1c
  have OZ := aa (gf' 1)
  clear gf gf' hSc hKc hXc Dx hK1 kH qM aF g2 w1c
  generalize hNB : Ew t line = NB
  have FA := aa hNB
  clear hNB
  go_upto_region 3 with fail
  generalize wc.setCell ⟨g, 2, none⟩ (.int .i64 t.l) = wb at eI ez aK NM OZ ⊢
  have w1 := NM.out
  have f1 := OZ.out
  clear g2c Tw x0 x1 x2 x3
  go_upto_if 28 with fail
  go_cut [5] (fun v5 wd => ∃ (st1 : List Int) (out1 : List TokZ) (nl : Bool), v5 = .bool nl /\ fd st out wait t line = Fg st1 out1 t nl /\ out1.length + st1.length <= 7000003 /\ ImplAt wd (fun k => K k \/ k = w.heap.size) g out1 st1 false t.l /\ Keeps K w wd /\ wd.heap[w.heap.size]? = some (aN t))
  case first =>
   cases wait
   ·go_wp2
    go_meet
    case rel => exact ⟨st, out, NB, rfl, by rw [<- FA.out]; exact tC st out t line, by omega, eI.out, ez.out, aK.out⟩
   ·obtain ⟨hS2, hK2⟩ := ImplAt.setWait eI.out false
    have lm := aa hS2
    have fh := aa (ez.out.trans (hK2.mono fun k hk => Or.inl hk))
    have gx : Hid ((wb.setCell ⟨g, 1, none⟩ (.bool false)).heap[w.heap.size]? = some (aN t)) := (az _ (Ne.symm uU)).trans aK.out
    clear hS2 hK2
    obtain ⟨y0, y1, y2, y3⟩ := aA aK.out
    have ed : Hid (fd st out true t line = if dq t 5 ⟨#[123]⟩ = true then some (0 :: st, out ++ [t], false) else if ef st t = true then fP (t.c :: st) (out ++ [bX jf]) t else gH st (out ++ [bX jf] ++ [bX fG]) t line) := rfl
    have Qj := zQ t
    go_wp2_with fail
    rw [aU]
    refine (jz t _).mono ?_
    rintro e w2 ⟨rfl, hb⟩
    have lr := aa (ImplAt.later lm.out hb)
    have fA := aa (fh.out.trans (cJ (K := K) hb fun k hk => ImplAt.kw lm.out k (Or.inl hk)))
    have jP := aa ((hb.block w.heap.size (ad gx.out)).trans gx.out)
    clear hb y0 y1 y2 y3
    obtain ⟨y0, y1, y2, y3⟩ := aA jP.out
    cases hI : dq t 5 ⟨#[123]⟩
    rotate_left
    ·rw [hI, if_pos rfl] at ed
     rw [hI] at Qj
     clear hI
     go_wp2_with fail
     refine (ii 0 lr.out (by omega)).mono ?_
     rintro e w3 ⟨rfl, ip, dI⟩
     have mX := aa ip
     have jO := aa (fA.out.trans (dI.mono fun k hk => Or.inl hk))
     obtain ⟨z0, z1, z2, z3⟩ := aA ((dI.block w.heap.size (Or.inr rfl)).trans jP.out)
     clear ip dI
     go_wp2_with fail
     rw [aU]
     refine (ow t cI mX.out (by rw [List.length_cons]; omega)).mono ?_
     rintro e w4 ⟨rfl, jm, tn⟩
     have oj := aa jm
     have ze := aa (jO.out.trans (tn.mono fun k hk => Or.inl hk))
     clear jm tn
     go_wp2
     go_ret
     exact Or.inl ⟨_, _, _, ed.out, rfl, ImplAt.less oj.out fun k hk => Or.inl hk, ze.out⟩
    ·rw [hI, if_neg (by decide)] at ed
     rw [hI] at Qj
     clear hI
     go_wp2_with fail
     rw [aU]
     refine (yk t lr.out (by omega)).mono ?_
     rintro e w3 ⟨rfl, ip, dI⟩
     have jO := aa (fA.out.trans (dI.mono fun k hk => Or.inl hk))
     have mh := aa ((dI.block w.heap.size (Or.inr rfl)).trans jP.out)
     clear dI
     cases hB : ef st t
     ·rw [(nF hB out).1, (nF hB out).2] at ip
      rw [hB, if_neg (by decide), tC, FA.out] at ed
      have mX := aa ip
      clear ip hB
      go_wp2
      go_meet
      case rel => exact ⟨_, _, NB, rfl, ed.out, by simp only [List.length_append, List.length_cons, List.length_nil]; omega, mX.out, jO.out, mh.out⟩
     ·rw [(oz hB out).1, (oz hB out).2] at ip
      rw [hB, if_pos rfl] at ed
      have mX := aa ip
      clear ip hB
      go_wp2
      go_meet
      case rel => exact ⟨_, _, false, rfl, ed.out, by simp only [List.length_append, List.length_cons, List.length_nil]; omega, mX.out, jO.out, mh.out⟩
  case rest =>
   obtain ⟨st1, out1, nl, rfl, hst1, jn, hSd, hKd, hXd⟩ := hcut
   have Ig := aa hst1
   have vt := aa hSd
   have IL := aa hKd
   have NF := aa hXd
   obtain ⟨x0, x1, x2, x3⟩ := aA hXd
   clear hst1 hSd hKd hXd eI ez aK NM OZ w1 f1 FA
   have Uf := nB st1 out1 t
   go_upto_if 43 with fail
   go_cut [] (fun we => ∃ (st2 : List Int) (out2 : List TokZ), fd st out wait t line = fP st2 out2 t /\ out2.length + st2.length <= 7000004 /\ ImplAt we (fun k => K k \/ k = w.heap.size) g out2 st2 false t.l /\ Keeps K w we /\ we.heap[w.heap.size]? = some (aN t))
   case first =>
    cases nl
    ·go_wp2
     go_meet
     case rel => exact ⟨st1, out1, Ig.out, by omega, vt.out, IL.out, NF.out⟩
    ·go_wp2_with fail
     refine (si t vt.out (by omega)).mono ?_
     rintro e w2 ⟨rfl, jr, aL⟩
     have lm := aa jr
     have fh := aa (IL.out.trans (aL.mono fun k hk => Or.inl hk))
     have gx := aa ((aL.block w.heap.size (Or.inr rfl)).trans NF.out)
     clear jr aL
     go_wp2
     go_meet
     case rel => exact ⟨(cB st1 out1 t).1, (cB st1 out1 t).2, Ig.out, by omega, lm.out, fh.out, gx.out⟩
   case rest =>
    obtain ⟨st2, out2, jk, qF, hSe, hKe, hXe⟩ := hcut
    have Co := aa jk
    have OC := aa hSe
    have KW := aa hKe
    have Oy := aa hXe
    clear x0 x1 x2 x3
    obtain ⟨x0, x1, x2, x3⟩ := aA hXe
    clear jk hSe hKe hXe Ig vt IL NF Uf
    have dF := kt st2 out2 t
    go_wp2_with fail
    rw [aU]
    refine (mj t _).mono ?_
    rintro e w2 ⟨rfl, hb⟩
    have lm := aa (ImplAt.later OC.out hb)
    have fh := aa (KW.out.trans (cJ (K := K) hb fun k hk => ImplAt.kw OC.out k (Or.inl hk)))
    have gx := aa ((hb.block w.heap.size (ad Oy.out)).trans Oy.out)
    clear hb x0 x1 x2 x3
    go_upto_if 49 with fail
    go_cut [] (fun wf => ∃ (st3 : List Int) (out3 : List TokZ), aT st2 out2 t = (st3, out3) /\ ImplAt wf (fun k => K k \/ k = w.heap.size) g out3 st3 false t.l /\ Keeps K w wf /\ wf.heap[w.heap.size]? = some (aN t))
    case first =>
     cases hC : bT t
     ·have HC : Hid (aT st2 out2 t = (st2, out2)) := by
       show aT st2 out2 t = (st2, out2)
       unfold aT
       rw [hC]
       rfl
      clear hC
      go_wp2
      go_meet
      case rel => exact ⟨st2, out2, HC.out, lm.out, fh.out, gx.out⟩
     ·have HC : Hid (aT st2 out2 t = bk 0 st2 out2) := by
       show aT st2 out2 t = bk 0 st2 out2
       unfold aT
       rw [hC]
       rfl
      clear hC
      go_wp2_with fail
      refine (kB 0 lm.out (by omega)).mono ?_
      rintro e w3 ⟨rfl, eP, d9⟩
      have lr := aa eP
      have fA := aa (fh.out.trans (d9.mono fun k hk => Or.inl hk))
      have jP := aa ((d9.block w.heap.size (Or.inr rfl)).trans gx.out)
      clear eP d9
      go_wp2
      go_meet
      case rel => exact ⟨_, _, HC.out, lr.out, fA.out, jP.out⟩
    case rest =>
     obtain ⟨st3, out3, hP, hSf, hKf, hXf⟩ := hcut
     rw [hP] at dF
     simp only at dF
     have HP := aa hP
     have Ql := aa hSf
     have SU := aa hKf
     have PZ := aa hXf
     obtain ⟨x0, x1, x2, x3⟩ := aA hXf
     clear hP hSf hKf hXf lm fh gx OC KW Oy
     go_wp2_with fail
     rw [aU]
     refine (wg t _).mono ?_
     rintro e w2 ⟨m, b, rfl, hmb, hb⟩
     have lm := aa (ImplAt.later Ql.out hb)
     have fh := aa (SU.out.trans (cJ (K := K) hb fun k hk => ImplAt.kw Ql.out k (Or.inl hk)))
     have gx := aa ((hb.block w.heap.size (ad PZ.out)).trans PZ.out)
     clear hb x0 x1 x2 x3
     rcases hmb with ⟨rfl, rfl, hN⟩ | ⟨rfl, hN⟩
     ·generalize hNN : bi t = N at hN
      have wM := aa hNN
      clear hNN
      go_wp2_with fail
      refine (Ea N lm.out (by omega)).mono ?_
      rintro e w3 (⟨r, hr, rfl, eP, d9⟩ | ⟨hr, rfl, eP, d9⟩)
      ·subst hr
       have HO := aa (Co.out.trans (oZ HP.out (by rw [wM.out]; exact hN) wM.out.symm))
       rw [List.length_cons] at dF
       have lr := aa eP
       have fA := aa (fh.out.trans (d9.mono fun k hk => Or.inl hk))
       have jP := aa ((d9.block w.heap.size (Or.inr rfl)).trans gx.out)
       clear eP d9
       obtain ⟨x0, x1, x2, x3⟩ := aA jP.out
       go_wp2_with fail
       rw [aU]
       refine (ow t cI lr.out (by omega)).mono ?_
       rintro e w4 ⟨rfl, ip, dI⟩
       have mX := aa ip
       have jO := aa (fA.out.trans (dI.mono fun k hk => Or.inl hk))
       have mh := aa ((dI.block w.heap.size (Or.inr rfl)).trans jP.out)
       clear ip dI x0 x1 x2 x3
       obtain ⟨x0, x1, x2, x3⟩ := aA mh.out
       go_wp2_with fail
       rw [aU]
       refine (kd t mX.out (by rw [List.length_append]; simp only [List.length_cons, List.length_nil]; omega)).mono ?_
       rintro e w5 ⟨rfl, jm, tn⟩
       have oj := aa jm
       have ze := aa (jO.out.trans (tn.mono fun k hk => Or.inl hk))
       clear jm tn
       go_wp2
       go_ret
       exact Or.inl ⟨_, _, _, HO.out, rfl, ImplAt.less oj.out fun k hk => Or.inl hk, ze.out⟩
      ·have HO := aa (Co.out.trans (DK HP.out (by rw [wM.out]; exact hN) (by rw [wM.out]; exact hr)))
       have fA := aa (fh.out.trans (d9.mono fun k hk => Or.inl hk))
       clear eP d9 hr
       go_wp2
       go_ret
       exact Or.inr ⟨HO.out, rfl, fA.out⟩
     ·have HO := aa (Co.out.trans (lR HP.out (by rw [hN]; decide)))
      clear hN
      obtain ⟨x0, x1, x2, x3⟩ := aA gx.out
      go_wp2_with fail
      rw [aU]
      refine (ow t cI lm.out (by omega)).mono ?_
      rintro e w4 ⟨rfl, ip, dI⟩
      have mX := aa ip
      have jO := aa (fh.out.trans (dI.mono fun k hk => Or.inl hk))
      have mh := aa ((dI.block w.heap.size (Or.inr rfl)).trans gx.out)
      clear ip dI x0 x1 x2 x3
      obtain ⟨x0, x1, x2, x3⟩ := aA mh.out
      go_wp2_with fail
      rw [aU]
      refine (kd t mX.out (by rw [List.length_append]; simp only [List.length_cons, List.length_nil]; omega)).mono ?_
      rintro e w5 ⟨rfl, jm, tn⟩
      have oj := aa jm
      have ze := aa (jO.out.trans (tn.mono fun k hk => Or.inl hk))
      clear jm tn
      go_wp2
      go_ret
      exact Or.inl ⟨_, _, _, HO.out, rfl, ImplAt.less oj.out fun k hk => Or.inl hk, ze.out⟩
end Go.Proofs.YtfomndilhlgikajGreatDoor.I
