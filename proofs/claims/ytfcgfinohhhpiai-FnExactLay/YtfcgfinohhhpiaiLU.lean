/- The program's taking of a sign. -/
import Derived.Test.YtfcgfinohhhpiaiLT
namespace Go.Proofs.Ytfcgfinohhhpiai.I
open Go.RowKit Go.Proofs.Ytfcgfinohhhpiai

def closedZ (st : List Int) (out : List TokZ) (t : TokZ) : List Int × List TokZ := if closes t = true then closeA 0 st out else (st, out)
theorem closedZ_sum (st : List Int) (out : List TokZ) (t : TokZ) : (closedZ st out t).1.length + (closedZ st out t).2.length = st.length + out.length := by
  unfold closedZ
  split
  · exact closeA_sum 0 st out
  · rfl
theorem needZ_low (t : TokZ) : -5 ≤ needZ t := by
  unfold needZ
  repeat' split
  all_goals decide
theorem outZ_pop {st : List Int} {out : List TokZ} {t : TokZ} {h : Int} {r : List Int} {o : List TokZ} (hc : closedZ st out t = (h :: r, o)) (hN : needZ t ≤ 0) (hh : h = needZ t) : outZ st out t = some (pushZ (opensZ t) r, o ++ [t], waitZ t) := by
  unfold closedZ at hc
  unfold outZ
  simp only
  rw [hc, if_pos hN]
  simp only
  rw [if_pos hh]
theorem outZ_bad {st : List Int} {out : List TokZ} {t : TokZ} {s : List Int} {o : List TokZ} (hc : closedZ st out t = (s, o)) (hN : needZ t ≤ 0) (hh : ¬ s.head?.getD (-9) = needZ t) : outZ st out t = none := by
  unfold closedZ at hc
  unfold outZ
  simp only
  rw [hc, if_pos hN]
  cases s with
  | nil => rfl
  | cons x r =>
    simp only
    rw [if_neg (show ¬ x = needZ t from hh)]
theorem outZ_plain {st : List Int} {out : List TokZ} {t : TokZ} {s : List Int} {o : List TokZ} (hc : closedZ st out t = (s, o)) (hN : ¬ needZ t ≤ 0) : outZ st out t = some (pushZ (opensZ t) s, o ++ [t], waitZ t) := by
  unfold closedZ at hc
  unfold outZ
  simp only
  rw [hc, if_neg hN]
theorem head_cons {st : List Int} {x : Int} (h : st.head?.getD (-9) = x) (hx : x ≠ -9) : ∃ r, st = x :: r := by
  cases st with
  | nil => exact absurd h.symm hx
  | cons y r => exact ⟨r, by rw [show y = x from h]⟩
theorem pushZ_step (l st : List Int) (i : Nat) (n : Int) (h : l[i]? = some n) : n :: pushZ (l.take i) st = pushZ (l.take (i + 1)) st := by
  unfold pushZ
  rw [List.take_add_one, h]
  simp

def newB (t : TokZ) (line : Int) : Bool := decide (line < t.l) && !(t.k == 6)
def restN (st : List Int) (out : List TokZ) (t : TokZ) (nl : Bool) : Option (List Int × List TokZ × Bool) :=
  let p := if nl = true then lineZ st out t else (st, out)
  outZ p.1 p.2 t
theorem restN_of (st : List Int) (out : List TokZ) (t : TokZ) (line : Int) : restZ st out t line = restN st out t (newB t line) := rfl
theorem out_not {st : List Int} {out : List TokZ} {t : TokZ} {s : List Int} {o : List TokZ} (hc : closedZ st out t = (s, o)) (hN : needZ t ≤ 0) (hh : s.head? ≠ some (needZ t)) : outZ st out t = none := by
  refine outZ_bad hc hN ?_
  cases s with
  | nil =>
    intro h
    have h2 : (-9 : Int) = needZ t := h
    have := needZ_low t
    omega
  | cons x r =>
    intro h
    exact hh (by rw [← h]; rfl)
theorem ImplAt.same {w : World} {K : Nat → Prop} {g : Nat} {out out' : List TokZ} {st st' : List Int} {wait : Bool} {line : Int} (h : ImplAt w K g out st wait line) (e1 : out = out') (e2 : st = st') : ImplAt w K g out' st' wait line := by
  rw [← e1, ← e2]
  exact h

set_option maxHeartbeats 8000000 in
set_option maxRecDepth 100000 in
theorem take_any {w : World} {K : Nat → Prop} {g : Nat} {out : List TokZ} {st : List Int} {wait : Bool} {line : Int} (t : TokZ) (hsz : t.s.size ≤ 1048576) (h : ImplAt w K g out st wait line) (hn : out.length + st.length ≤ 7000000) :
    Calls Try.prog 35 #[.pointer (some ⟨g, 0, none⟩), aggZ t] w fun e w' => (∃ a b c, stepZ st out wait t line = some (a, b, c) ∧ e = .returned (.bool true) ∧ ImplAt w' K g b a c t.l ∧ Keeps K w w') ∨ (stepZ st out wait t line = none ∧ e = .returned (.bool false) ∧ Keeps K w w') := by
  have hgw := ImplAt.gw h
  have HK0 := hide (keeps_alloc w (tokObj t) (ImplAt.kw h))
  have HS0 := hide (ImplAt.box h (tokObj t))
  have HX0 := hide (heap_alloc_new w (tokObj t))
  obtain ⟨o0, n0, o1, n1, -, g1, g2, -, -, -, gf⟩ := ImplAt.facts h
  clear h gf g1
  unfold aggZ
  go_enter Try.func35, Try.ntmps35
  go_upto_region 1 with fail
  go_cut [5] (fun v5 wc => v5 = .bool (newB t line) ∧ ImplAt wc (fun k => K k ∨ k = w.heap.size) g out st wait line ∧ Keeps K w wc ∧ wc.heap[w.heap.size]? = some (tokObj t))
  case first =>
    have HNB : Hid (newB t line = (decide (line < t.l) && !(t.k == 6))) := rfl
    cases h6 : (t.k == 6)
    · have hd6 : (t.k != 6) = true := by rw [bne, h6]; rfl
      rw [h6] at HNB
      go_quiet (fail)
      go_wp2_with fail
      go_meet
      case rel =>
        refine ⟨?_, ImplAt.drewN HS0.out _, Keeps.drewN HK0.out _, HX0.out⟩
        rw [HNB.out]
        simp
    · have hd6 : (t.k != 6) = false := by rw [bne, h6]; rfl
      rw [h6] at HNB
      go_quiet (fail)
      go_wp2_with fail
      go_meet
      case rel =>
        refine ⟨?_, ImplAt.drewN HS0.out _, Keeps.drewN HK0.out _, HX0.out⟩
        rw [HNB.out]
        simp
  case rest =>
    obtain ⟨rfl, hSc, hKc, hXc⟩ := hcut
    obtain ⟨p0, q0, p1, q1, -, -, g2c, -, -, -, gf⟩ := ImplAt.facts hSc
    have gf2 := gf 2
    obtain ⟨x0, x1, x2, x3⟩ := tokObj_cells hXc
    have hgb : g ≠ w.heap.size := by omega
    obtain ⟨hS1, hK1⟩ := ImplAt.setLine hSc t.l
    have HS1 := hide hS1
    have HK1 := hide (hKc.trans (hK1.mono fun k hk => Or.inl hk))
    have HX1 : Hid ((wc.setCell ⟨g, 2, none⟩ (.int .i64 t.l)).heap[w.heap.size]? = some (tokObj t)) := (heap_set_other _ (Ne.symm hgb)).trans hXc
    obtain ⟨p2, q2, p3, q3, -, w1c, -, -, -, -, gf'⟩ := ImplAt.facts hS1
    have W1C := hide w1c
    have GF1 := hide (gf' 1)
    clear gf gf' hSc hKc hXc hS1 hK1 HS0 HK0 HX0 g2 w1c
    generalize hNB : newB t line = NB
    have HNB := hide hNB
    clear hNB
    go_upto_region 3 with fail
    generalize wc.setCell ⟨g, 2, none⟩ (.int .i64 t.l) = wb at HS1 HK1 HX1 W1C GF1 ⊢
    have w1 := W1C.out
    have f1 := GF1.out
    clear g2c gf2 x0 x1 x2 x3
    go_upto_if 28 with fail
    go_cut [5] (fun v5 wd => ∃ (st1 : List Int) (out1 : List TokZ) (nl : Bool), v5 = .bool nl ∧ stepZ st out wait t line = restN st1 out1 t nl ∧ out1.length + st1.length ≤ 7000003 ∧ ImplAt wd (fun k => K k ∨ k = w.heap.size) g out1 st1 false t.l ∧ Keeps K w wd ∧ wd.heap[w.heap.size]? = some (tokObj t))
    case first =>
      cases wait
      · go_wp2
        go_meet
        case rel => exact ⟨st, out, NB, rfl, by rw [← HNB.out]; exact restN_of st out t line, by omega, HS1.out, HK1.out, HX1.out⟩
      · obtain ⟨hS2, hK2⟩ := ImplAt.setWait HS1.out false
        have HS2 := hide hS2
        have HK2 := hide (HK1.out.trans (hK2.mono fun k hk => Or.inl hk))
        have HX2 : Hid ((wb.setCell ⟨g, 1, none⟩ (.bool false)).heap[w.heap.size]? = some (tokObj t)) := (heap_set_other _ (Ne.symm hgb)).trans HX1.out
        clear hS2 hK2
        obtain ⟨y0, y1, y2, y3⟩ := tokObj_cells HX1.out
        have HST : Hid (stepZ st out true t line = if isB t 5 ⟨#[123]⟩ = true then some (0 :: st, out ++ [t], false) else if beginsZ st t = true then outZ (t.c :: st) (out ++ [markZ sOpen]) t else restZ st (out ++ [markZ sOpen] ++ [markZ sShut]) t line) := rfl
        have hso := sgn_open t
        go_wp2_with fail
        rw [tok_eta2]
        refine (signOf_any t _).mono ?_
        rintro e w2 ⟨rfl, hb⟩
        have HS3 := hide (ImplAt.later HS2.out hb)
        have HK3 := hide (HK2.out.trans (keeps_of (K := K) hb fun k hk => ImplAt.kw HS2.out k (Or.inl hk)))
        have HX3 := hide ((hb.block w.heap.size (heap_lt HX2.out)).trans HX2.out)
        clear hb y0 y1 y2 y3
        obtain ⟨y0, y1, y2, y3⟩ := tokObj_cells HX3.out
        cases hI : isB t 5 ⟨#[123]⟩
        rotate_left
        · rw [hI, if_pos rfl] at HST
          rw [hI] at hso
          clear hI
          go_wp2_with fail
          refine (push_any 0 HS3.out (by omega)).mono ?_
          rintro e w3 ⟨rfl, hs4, hk4⟩
          have HS4 := hide hs4
          have HK4 := hide (HK3.out.trans (hk4.mono fun k hk => Or.inl hk))
          obtain ⟨z0, z1, z2, z3⟩ := tokObj_cells ((hk4.block w.heap.size (Or.inr rfl)).trans HX3.out)
          clear hs4 hk4
          go_wp2_with fail
          rw [tok_eta2]
          refine (put_any t hsz HS4.out (by rw [List.length_cons]; omega)).mono ?_
          rintro e w4 ⟨rfl, hs5, hk5⟩
          have HS5 := hide hs5
          have HK5 := hide (HK4.out.trans (hk5.mono fun k hk => Or.inl hk))
          clear hs5 hk5
          go_wp2
          go_ret
          exact Or.inl ⟨_, _, _, HST.out, rfl, ImplAt.less HS5.out fun k hk => Or.inl hk, HK5.out⟩
        · rw [hI, if_neg (by decide)] at HST
          rw [hI] at hso
          clear hI
          go_wp2_with fail
          rw [tok_eta2]
          refine (begin_any t HS3.out (by omega)).mono ?_
          rintro e w3 ⟨rfl, hs4, hk4⟩
          have HK4 := hide (HK3.out.trans (hk4.mono fun k hk => Or.inl hk))
          have HX4 := hide ((hk4.block w.heap.size (Or.inr rfl)).trans HX3.out)
          clear hk4
          cases hB : beginsZ st t
          · rw [(beg_no hB out).1, (beg_no hB out).2] at hs4
            rw [hB, if_neg (by decide), restN_of, HNB.out] at HST
            have HS4 := hide hs4
            clear hs4 hB
            go_wp2
            go_meet
            case rel => exact ⟨_, _, NB, rfl, HST.out, by simp only [List.length_append, List.length_cons, List.length_nil]; omega, HS4.out, HK4.out, HX4.out⟩
          · rw [(beg_yes hB out).1, (beg_yes hB out).2] at hs4
            rw [hB, if_pos rfl] at HST
            have HS4 := hide hs4
            clear hs4 hB
            go_wp2
            go_meet
            case rel => exact ⟨_, _, false, rfl, HST.out, by simp only [List.length_append, List.length_cons, List.length_nil]; omega, HS4.out, HK4.out, HX4.out⟩
    case rest =>
      obtain ⟨st1, out1, nl, rfl, hst1, hn1, hSd, hKd, hXd⟩ := hcut
      have HST1 := hide hst1
      have HSD := hide hSd
      have HKD := hide hKd
      have HXD := hide hXd
      obtain ⟨x0, x1, x2, x3⟩ := tokObj_cells hXd
      clear hst1 hSd hKd hXd HS1 HK1 HX1 W1C GF1 w1 f1 HNB
      have hls := lineZ_sum st1 out1 t
      go_upto_if 43 with fail
      go_cut [] (fun we => ∃ (st2 : List Int) (out2 : List TokZ), stepZ st out wait t line = outZ st2 out2 t ∧ out2.length + st2.length ≤ 7000004 ∧ ImplAt we (fun k => K k ∨ k = w.heap.size) g out2 st2 false t.l ∧ Keeps K w we ∧ we.heap[w.heap.size]? = some (tokObj t))
      case first =>
        cases nl
        · go_wp2
          go_meet
          case rel => exact ⟨st1, out1, HST1.out, by omega, HSD.out, HKD.out, HXD.out⟩
        · go_wp2_with fail
          refine (turnLine_any t HSD.out (by omega)).mono ?_
          rintro e w2 ⟨rfl, hs2, hk2⟩
          have HS2 := hide hs2
          have HK2 := hide (HKD.out.trans (hk2.mono fun k hk => Or.inl hk))
          have HX2 := hide ((hk2.block w.heap.size (Or.inr rfl)).trans HXD.out)
          clear hs2 hk2
          go_wp2
          go_meet
          case rel => exact ⟨(lineZ st1 out1 t).1, (lineZ st1 out1 t).2, HST1.out, by omega, HS2.out, HK2.out, HX2.out⟩
      case rest =>
        obtain ⟨st2, out2, hst2, hn2, hSe, hKe, hXe⟩ := hcut
        have HST2 := hide hst2
        have HSE := hide hSe
        have HKE := hide hKe
        have HXE := hide hXe
        clear x0 x1 x2 x3
        obtain ⟨x0, x1, x2, x3⟩ := tokObj_cells hXe
        clear hst2 hSe hKe hXe HST1 HSD HKD HXD hls
        have hcs := closedZ_sum st2 out2 t
        go_wp2_with fail
        rw [tok_eta2]
        refine (closesMargins_any t _).mono ?_
        rintro e w2 ⟨rfl, hb⟩
        have HS2 := hide (ImplAt.later HSE.out hb)
        have HK2 := hide (HKE.out.trans (keeps_of (K := K) hb fun k hk => ImplAt.kw HSE.out k (Or.inl hk)))
        have HX2 := hide ((hb.block w.heap.size (heap_lt HXE.out)).trans HXE.out)
        clear hb x0 x1 x2 x3
        go_upto_if 49 with fail
        go_cut [] (fun wf => ∃ (st3 : List Int) (out3 : List TokZ), closedZ st2 out2 t = (st3, out3) ∧ ImplAt wf (fun k => K k ∨ k = w.heap.size) g out3 st3 false t.l ∧ Keeps K w wf ∧ wf.heap[w.heap.size]? = some (tokObj t))
        case first =>
          cases hC : closes t
          · have HC : Hid (closedZ st2 out2 t = (st2, out2)) := by
              show closedZ st2 out2 t = (st2, out2)
              unfold closedZ
              rw [hC]
              rfl
            clear hC
            go_wp2
            go_meet
            case rel => exact ⟨st2, out2, HC.out, HS2.out, HK2.out, HX2.out⟩
          · have HC : Hid (closedZ st2 out2 t = closeA 0 st2 out2) := by
              show closedZ st2 out2 t = closeA 0 st2 out2
              unfold closedZ
              rw [hC]
              rfl
            clear hC
            go_wp2_with fail
            refine (closeAbove_any 0 HS2.out (by omega)).mono ?_
            rintro e w3 ⟨rfl, hs3, hk3⟩
            have HS3 := hide hs3
            have HK3 := hide (HK2.out.trans (hk3.mono fun k hk => Or.inl hk))
            have HX3 := hide ((hk3.block w.heap.size (Or.inr rfl)).trans HX2.out)
            clear hs3 hk3
            go_wp2
            go_meet
            case rel => exact ⟨_, _, HC.out, HS3.out, HK3.out, HX3.out⟩
        case rest =>
          obtain ⟨st3, out3, hP, hSf, hKf, hXf⟩ := hcut
          rw [hP] at hcs
          simp only at hcs
          have HP := hide hP
          have HSF := hide hSf
          have HKF := hide hKf
          have HXF := hide hXf
          obtain ⟨x0, x1, x2, x3⟩ := tokObj_cells hXf
          clear hP hSf hKf hXf HS2 HK2 HX2 HSE HKE HXE
          go_wp2_with fail
          rw [tok_eta2]
          refine (mustBe_any t _).mono ?_
          rintro e w2 ⟨m, b, rfl, hmb, hb⟩
          have HS2 := hide (ImplAt.later HSF.out hb)
          have HK2 := hide (HKF.out.trans (keeps_of (K := K) hb fun k hk => ImplAt.kw HSF.out k (Or.inl hk)))
          have HX2 := hide ((hb.block w.heap.size (heap_lt HXF.out)).trans HXF.out)
          clear hb x0 x1 x2 x3
          rcases hmb with ⟨rfl, rfl, hN⟩ | ⟨rfl, hN⟩
          · generalize hNN : needZ t = N at hN
            have HNN := hide hNN
            clear hNN
            go_wp2_with fail
            refine (pop_any N HS2.out (by omega)).mono ?_
            rintro e w3 (⟨r, hr, rfl, hs3, hk3⟩ | ⟨hr, rfl, hs3, hk3⟩)
            · subst hr
              have HO := hide (HST2.out.trans (outZ_pop HP.out (by rw [HNN.out]; exact hN) HNN.out.symm))
              rw [List.length_cons] at hcs
              have HS3 := hide hs3
              have HK3 := hide (HK2.out.trans (hk3.mono fun k hk => Or.inl hk))
              have HX3 := hide ((hk3.block w.heap.size (Or.inr rfl)).trans HX2.out)
              clear hs3 hk3
              obtain ⟨x0, x1, x2, x3⟩ := tokObj_cells HX3.out
              go_wp2_with fail
              rw [tok_eta2]
              refine (put_any t hsz HS3.out (by omega)).mono ?_
              rintro e w4 ⟨rfl, hs4, hk4⟩
              have HS4 := hide hs4
              have HK4 := hide (HK3.out.trans (hk4.mono fun k hk => Or.inl hk))
              have HX4 := hide ((hk4.block w.heap.size (Or.inr rfl)).trans HX3.out)
              clear hs4 hk4 x0 x1 x2 x3
              obtain ⟨x0, x1, x2, x3⟩ := tokObj_cells HX4.out
              go_wp2_with fail
              rw [tok_eta2]
              refine (openBehind_any t HS4.out (by rw [List.length_append]; simp only [List.length_cons, List.length_nil]; omega)).mono ?_
              rintro e w5 ⟨rfl, hs5, hk5⟩
              have HS5 := hide hs5
              have HK5 := hide (HK4.out.trans (hk5.mono fun k hk => Or.inl hk))
              clear hs5 hk5
              go_wp2
              go_ret
              exact Or.inl ⟨_, _, _, HO.out, rfl, ImplAt.less HS5.out fun k hk => Or.inl hk, HK5.out⟩
            · have HO := hide (HST2.out.trans (out_not HP.out (by rw [HNN.out]; exact hN) (by rw [HNN.out]; exact hr)))
              have HK3 := hide (HK2.out.trans (hk3.mono fun k hk => Or.inl hk))
              clear hs3 hk3 hr
              go_wp2
              go_ret
              exact Or.inr ⟨HO.out, rfl, HK3.out⟩
          · have HO := hide (HST2.out.trans (outZ_plain HP.out (by rw [hN]; decide)))
            clear hN
            obtain ⟨x0, x1, x2, x3⟩ := tokObj_cells HX2.out
            go_wp2_with fail
            rw [tok_eta2]
            refine (put_any t hsz HS2.out (by omega)).mono ?_
            rintro e w4 ⟨rfl, hs4, hk4⟩
            have HS4 := hide hs4
            have HK4 := hide (HK2.out.trans (hk4.mono fun k hk => Or.inl hk))
            have HX4 := hide ((hk4.block w.heap.size (Or.inr rfl)).trans HX2.out)
            clear hs4 hk4 x0 x1 x2 x3
            obtain ⟨x0, x1, x2, x3⟩ := tokObj_cells HX4.out
            go_wp2_with fail
            rw [tok_eta2]
            refine (openBehind_any t HS4.out (by rw [List.length_append]; simp only [List.length_cons, List.length_nil]; omega)).mono ?_
            rintro e w5 ⟨rfl, hs5, hk5⟩
            have HS5 := hide hs5
            have HK5 := hide (HK4.out.trans (hk5.mono fun k hk => Or.inl hk))
            clear hs5 hk5
            go_wp2
            go_ret
            exact Or.inl ⟨_, _, _, HO.out, rfl, ImplAt.less HS5.out fun k hk => Or.inl hk, HK5.out⟩
end Go.Proofs.Ytfcgfinohhhpiai.I
