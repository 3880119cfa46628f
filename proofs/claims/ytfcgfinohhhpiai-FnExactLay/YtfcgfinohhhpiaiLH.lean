/- The model's step, and its Lay. -/
import Derived.Test.YtfcgfinohhhpiaiLG
namespace Go.Proofs.Ytfcgfinohhhpiai
open Go.RowKit

theorem SpecRes.less {w : World} {K K' : Nat → Prop} {g : Nat} {r : Option (List Int × List TokZ × Bool)} (h : SpecRes w K' g r) (hk : ∀ k, K k → K' k) : SpecRes w K g r := by
  match r, h with
  | none, ⟨st, out, wait, h⟩ => exact ⟨st, out, wait, h.less hk⟩
  | some (a, b, c), h => exact SpecAt.less h hk

set_option maxHeartbeats 4000000 in
set_option maxRecDepth 100000 in
theorem l2Step_any {w : World} {K : Nat → Prop} {g : Nat} {out : List TokZ} {st : List Int} {wait : Bool} (t : TokZ) (line : Int) (h : SpecAt w K g out st wait false) (hn : out.length + st.length ≤ 7500000) :
    Calls Try.prog 33 #[.pointer (some ⟨g, 0, none⟩), aggZ t, .int .i64 line] w fun e w' => e = .returned (.tuple #[]) ∧ SpecRes w' K g (stepZ st out wait t line) ∧ Keeps K w w' := by
  obtain ⟨c2, f2⟩ := h.wait2
  have hgw : g < w.heap.size := by obtain ⟨vo, vs, hg, hm⟩ := h; exact hm.gw
  have HK0 := hide (keeps_alloc w (tokObj t) h.kw)
  have HS0 := hide (h.box (tokObj t))
  have HX0 := hide (heap_alloc_new w (tokObj t))
  have hs1 := (h.setWait false).1.box (tokObj t)
  have hk1 := (h.setWait false).2.trans (keeps_alloc _ (tokObj t) (h.setWait false).1.kw)
  have hx1 := heap_alloc_new (w.setCell ⟨g, 2, none⟩ (.bool false)) (tokObj t)
  rw [show (w.setCell ⟨g, 2, none⟩ (.bool false)).heap.size = w.heap.size by simp] at hs1 hx1
  have HS1 := hide hs1
  have HK1 := hide hk1
  have HX1 := hide hx1
  clear h hs1 hk1 hx1
  unfold aggZ
  go_enter Try.func33, Try.ntmps33
  go_upto_if 9 with fail
  go_cut [] (fun wc => ∃ (st1 : List Int) (out1 : List TokZ) (wt : Bool), stepZ st out wait t line = restZ st1 out1 t line ∧ out1.length + st1.length ≤ 7600000 ∧ SpecAt wc (fun k => K k ∨ k = w.heap.size) g out1 st1 wt false ∧ Keeps K w wc ∧ wc.heap[w.heap.size]? = some (tokObj t))
  case first =>
    cases wait
    · go_wp2
      go_meet
      case rel => exact ⟨st, out, false, rfl, by omega, HS0.out, HK0.out, HX0.out⟩
    · go_wp2_with fail
      rw [tok_eta2]
      refine (is_any t 5 ⟨#[123]⟩ _).mono ?_
      rintro e w2 ⟨rfl, hb⟩
      have HS2 := hide (HS1.out.later hb)
      have HK2 := hide (HK1.out.trans (keeps_of (K := K) hb fun k hk => HS1.out.kw k (Or.inl hk)))
      have HX2 := hide ((hb.block w.heap.size (heap_lt HX1.out)).trans HX1.out)
      clear hb c2 f2
      have HST : Hid (stepZ st out true t line = if isB t 5 ⟨#[123]⟩ = true then some (0 :: st, out ++ [t], false) else if (!(t.k == 6) && decide (greatZ st < t.c)) = true then outZ (t.c :: st) (out ++ [markZ sOpen]) t else restZ st (out ++ [markZ sOpen] ++ [markZ sShut]) t line) := rfl
      cases hI : isB t 5 ⟨#[123]⟩
      rotate_left
      · rw [hI, if_pos rfl] at HST
        clear hI
        go_wp2_with fail
        refine (l2Push_any 0 HS2.out (by omega)).mono ?_
        rintro e w3 ⟨rfl, hs3, hk3⟩
        have HK3 := hide (HK2.out.trans (hk3.mono fun k hk => Or.inl hk))
        obtain ⟨x0, x1, x2, x3⟩ := tokObj_cells ((hk3.block w.heap.size (Or.inr rfl)).trans HX2.out)
        obtain ⟨vo, vs, hg, hm⟩ := hs3
        obtain ⟨o', n', cap', w4, hr, hm4, hk4, hg4⟩ := put_run hm t (by omega)
        rw [hg] at hg4
        have c0 := cell_of hg 0
        have d0 := cell_of hg4 0
        simp only [List.getElem?_toArray, List.getElem?_cons_zero] at c0 d0
        have f0 := frozen_of hg4 0
        have hgw3 : g < w3.heap.size := hm.gw
        have hbw3 : w.heap.size < w3.heap.size := hm.kw _ (Or.inr rfl)
        have HR := hide hr
        have HM4 := hide hm4
        have HK4 := hide (HK3.out.trans (hk4.mono fun k hk => Or.inl hk))
        have HG4 := hide hg4
        clear hg hm hr hm4 hk4 hg4 hk3
        go_wp2
        go_region_law (refine step_append_run rfl (.tmp 21) (.tmp 23) 24 rfl vo (.slice (some ⟨w3.heap.size, 0, none⟩) 1 1) (.slice o' n' cap') w4 (by simp [Act.eval]) (by simp [Act.eval]) HR.out ?_)
        all_goals
          go_wp2
          try simp only [Exit.inBlock, Exit.then]
          refine bodyPost_ret (results_none rfl _ _ _) rfl ⟨rfl, ?_, ?_⟩
          · rw [HST.out]
            have hs : SpecAt (w4.setCell ⟨g, 0, none⟩ (.slice o' n' cap')) (fun k => K k ∨ k = w.heap.size) g (out ++ [t]) (0 :: st) false false := ⟨_, vs, heap_set_same _ HG4.out, HM4.out.set _ _⟩
            exact hs.less fun k hk => Or.inl hk
          · exact HK4.out.trans (keeps_set _ _ _ _ fun h => HM4.out.kg (Or.inl h))
      · rw [hI, if_neg (by decide)] at HST
        clear hI
        go_wp2_with fail
        refine (l2Put_any ⟨#[123]⟩ HS2.out (by omega)).mono ?_
        rintro e w3 ⟨rfl, hs3, hk3⟩
        have HS3 := hide hs3
        have HK3 := hide (HK2.out.trans (hk3.mono fun k hk => Or.inl hk))
        have HX3 := hide ((hk3.block w.heap.size (Or.inr rfl)).trans HX2.out)
        clear hs3 hk3
        obtain ⟨x0, x1, x2, x3⟩ := tokObj_cells HX3.out
        generalize hG : greatZ st = G at HST
        have HG := hide hG
        clear hG
        have hl1 : (out ++ [markZ ⟨#[123]⟩]).length = out.length + 1 := by rw [List.length_append]; rfl
        have HL1 := hide hl1
        clear hl1
        cases h6 : (t.k == 6)
        · have hd6 : (t.k != 6) = true := by rw [bne, h6]; rfl
          rw [h6] at HST
          by_cases hG : G < t.c
          · have hdG : decide (G < t.c) = true := by simp [hG]
            rw [hdG] at HST
            clear h6
            go_wp2
            go_quiet ((go_at_call 58; refine l2Margin_quiet HS3.out (by have := HL1.out; omega) _ G HG.out))
            go_wp2_with fail
            refine (l2Push_any t.c (HS3.out.drewN _) (by have := HL1.out; omega)).mono ?_
            rintro e w4 ⟨rfl, hs4, hk4⟩
            have HS4 := hide hs4
            have HK4 := hide ((HK3.out.drewN _).trans (hk4.mono fun k hk => Or.inl hk))
            obtain ⟨y0, y1, y2, y3⟩ := tokObj_cells ((hk4.block w.heap.size (Or.inr rfl)).trans HX3.out)
            clear hs4 hk4
            go_wp2_with fail
            rw [tok_eta2]
            refine (l2Out_any t HS4.out (by have := HL1.out; rw [List.length_cons]; omega)).mono ?_
            rintro e w5 ⟨rfl, hs5, hk5⟩
            have HS5 := hide hs5
            have HK5 := hide (HK4.out.trans (hk5.mono fun k hk => Or.inl hk))
            clear hs5 hk5
            go_wp2
            try simp only [Exit.inBlock, Exit.then]
            refine bodyPost_ret (results_none rfl _ _ _) rfl ⟨rfl, ?_, HK5.out⟩
            rw [HST.out]
            exact HS5.out.less fun k hk => Or.inl hk
          · have hdG : decide (G < t.c) = false := by simp [hG]
            rw [hdG] at HST
            clear h6
            go_wp2
            go_quiet ((go_at_call 58; refine l2Margin_quiet HS3.out (by have := HL1.out; omega) _ G HG.out))
            go_wp2_with fail
            refine (l2Put_any ⟨#[125]⟩ (HS3.out.drewN _) (by have := HL1.out; omega)).mono ?_
            rintro e w4 ⟨rfl, hs4, hk4⟩
            have HS4 := hide hs4
            have HK4 := hide ((HK3.out.drewN _).trans (hk4.mono fun k hk => Or.inl hk))
            have HX4 := hide ((hk4.block w.heap.size (Or.inr rfl)).trans HX3.out)
            clear hs4 hk4
            go_wp2
            go_meet
            case rel => exact ⟨st, _, false, HST.out, by have := HL1.out; simp only [List.length_append, List.length_cons, List.length_nil]; omega, HS4.out, HK4.out, HX4.out⟩
        · rw [h6] at HST
          have hd6 : (t.k != 6) = false := by rw [bne, h6]; rfl
          clear h6
          go_wp2
          go_quiet (fail)
          go_wp2_with fail
          refine (l2Put_any ⟨#[125]⟩ (HS3.out.drewN _) (by have := HL1.out; omega)).mono ?_
          rintro e w4 ⟨rfl, hs4, hk4⟩
          have HS4 := hide hs4
          have HK4 := hide ((HK3.out.drewN _).trans (hk4.mono fun k hk => Or.inl hk))
          have HX4 := hide ((hk4.block w.heap.size (Or.inr rfl)).trans HX3.out)
          clear hs4 hk4
          go_wp2
          go_meet
          case rel => exact ⟨st, _, false, HST.out, by have := HL1.out; simp only [List.length_append, List.length_cons, List.length_nil]; omega, HS4.out, HK4.out, HX4.out⟩
  case rest =>
    obtain ⟨st1, out1, wt, hst, hn1, hS, hK, hX⟩ := hcut
    have HST := hide hst
    have HS := hide hS
    have HK := hide hK
    have HX := hide hX
    obtain ⟨x0, x1, x2, x3⟩ := tokObj_cells hX
    clear hst hS hK hX c2 f2 HS1 HK1 HX1 HS0 HK0 HX0
    by_cases hA : line < t.l ∧ t.k ≠ 6
    · obtain ⟨hl, h6⟩ := hA
      have h6b : (t.k == 6) = false := by simp [h6]
      have HRZ : Hid (restZ st1 out1 t line = outZ (lineZ st1 out1 t).1 (lineZ st1 out1 t).2 t) := by
        show restZ st1 out1 t line = _
        unfold restZ
        rw [h6b]
        simp [hl]
      have HSUM := hide (lineZ_sum st1 out1 t)
      clear h6
      go_wp2_with fail
      rw [tok_eta2]
      refine (l2Line_any t HS.out (by omega)).mono ?_
      rintro e w2 ⟨rfl, hs2, hk2⟩
      have HS2 := hide hs2
      have HK2 := hide (HK.out.trans (hk2.mono fun k hk => Or.inl hk))
      obtain ⟨y0, y1, y2, y3⟩ := tokObj_cells ((hk2.block w.heap.size (Or.inr rfl)).trans HX.out)
      clear hs2 hk2
      go_wp2_with fail
      rw [tok_eta2]
      refine (l2Out_any t HS2.out (by have := HSUM.out; omega)).mono ?_
      rintro e w3 ⟨rfl, hs3, hk3⟩
      have HS3 := hide hs3
      have HK3 := hide (HK2.out.trans (hk3.mono fun k hk => Or.inl hk))
      clear hs3 hk3
      go_wp2
      go_end0
      refine ⟨rfl, ?_, HK3.out⟩
      rw [HST.out, HRZ.out]
      exact HS3.out.less fun k hk => Or.inl hk
    · have HRZ : Hid (restZ st1 out1 t line = outZ st1 out1 t) := by
        show restZ st1 out1 t line = _
        unfold restZ
        have : (decide (line < t.l) && !(t.k == 6)) = false := by
          by_cases h1 : line < t.l
          · have h2 : t.k = 6 := Classical.not_not.1 fun h => hA ⟨h1, h⟩
            simp [h2]
          · simp [h1]
        rw [this]
        simp
      by_cases hl : line < t.l
      · have h6 : t.k = 6 := Classical.not_not.1 fun h => hA ⟨hl, h⟩
        have h6b : (t.k == 6) = true := by simp [h6]
        clear h6 hA
        go_wp2_with fail
        rw [tok_eta2]
        refine (l2Out_any t HS.out (by omega)).mono ?_
        rintro e w3 ⟨rfl, hs3, hk3⟩
        have HS3 := hide hs3
        have HK3 := hide (HK.out.trans (hk3.mono fun k hk => Or.inl hk))
        clear hs3 hk3
        go_wp2
        go_end0
        refine ⟨rfl, ?_, HK3.out⟩
        rw [HST.out, HRZ.out]
        exact HS3.out.less fun k hk => Or.inl hk
      · clear hA
        go_wp2_with fail
        rw [tok_eta2]
        refine (l2Out_any t HS.out (by omega)).mono ?_
        rintro e w3 ⟨rfl, hs3, hk3⟩
        have HS3 := hide hs3
        have HK3 := hide (HK.out.trans (hk3.mono fun k hk => Or.inl hk))
        clear hs3 hk3
        go_wp2
        go_end0
        refine ⟨rfl, ?_, HK3.out⟩
        rw [HST.out, HRZ.out]
        exact HS3.out.less fun k hk => Or.inl hk
end Go.Proofs.Ytfcgfinohhhpiai
