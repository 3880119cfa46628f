/- The program's NamesOf. -/
import Derived.Test.YtihjpkldefllgakGreatCQ
import Derived.Maps.RangeWalk
namespace Go.Proofs.YtihjpkldefllgakGreat.Nm
open Go.ChangeShapes Go.WideShapes Go.ChangeAt Go.RowKit

theorem net2_parts {R : ByteArray → Prop} {w : World} {n : Nat} (h : Net2 R w n) : ∃ (K KP KS : Nat → Prop) (ks : List (Bool × Addr)) (L : Nat), Net KP KS w n ks L ∧ (∀ k ∈ ks, ∃ h t, AtP w K k h t) ∧ ks.length ≤ 5000000 ∧ (∀ k ∈ ks, ∀ h t, AtP w K k h t → t.s.size ≤ maxLen) ∧ NetOf (fun y => ∃ k ∈ ks, ∃ h t, AtP w K k h t ∧ ownK k.1 t y) w n ∧ (∀ y, R y ↔ (∃ k ∈ ks, ∃ h t, AtP w K k h t ∧ ownK k.1 t y) ∨ (∃ k ∈ ks, ∃ h t, AtP w K k h t ∧ askK k.1 t y)) := by
  obtain ⟨K, KP, KS, ks, L, hN, hat, hR, hkl, hbd⟩ := h
  refine ⟨K, KP, KS, ks, L, hN, hat, hkl, fun k hk h t ht => (hbd k hk h t ht).2.2.2, ⟨K, KP, KS, ks, L, hN, hat, fun y => Iff.rfl, hkl, fun k hk h t ht => ⟨(hbd k hk h t ht).1, (hbd k hk h t ht).2.1, (hbd k hk h t ht).2.2.1⟩⟩, fun y => ?_⟩
  have hsplit : ∀ (b : Bool) (t : Tr), othK b t y ↔ ownK b t y ∨ askK b t y := fun b t => by
    cases b
    · simp [othK, ownK, askK]
    · simp only [othK, ownK, askK, if_true, true_and]
      constructor
      · rintro (⟨h1 | h1, h2⟩ | h1)
        · exact .inl (.inl ⟨h1, h2⟩)
        · exact .inr ⟨h1, h2⟩
        · exact .inl (.inr h1)
      · rintro ((⟨h1, h2⟩ | h1) | ⟨h1, h2⟩)
        · exact .inl ⟨.inl h1, h2⟩
        · exact .inr h1
        · exact .inl ⟨.inr h1, h2⟩
  rw [hR]
  constructor
  · rintro ⟨k, hk, h, t, ht, ho⟩
    rcases (hsplit k.1 t).1 ho with h1 | h1
    · exact .inl ⟨k, hk, h, t, ht, h1⟩
    · exact .inr ⟨k, hk, h, t, ht, h1⟩
  · rintro (⟨k, hk, h, t, ht, ho⟩ | ⟨k, hk, h, t, ht, ho⟩)
    · exact ⟨k, hk, h, t, ht, (hsplit k.1 t).2 (.inl ho)⟩
    · exact ⟨k, hk, h, t, ht, (hsplit k.1 t).2 (.inr ho)⟩
theorem ask_later {w w' : World} {K : Nat → Prop} {ks : List (Bool × Addr)} (hat : ∀ k ∈ ks, ∃ h t, AtP w K k h t) (hb : Below w.heap.size w w') (y : ByteArray) : (∃ k ∈ ks, ∃ h t, AtP w' K k h t ∧ askK k.1 t y) ↔ ∃ k ∈ ks, ∃ h t, AtP w K k h t ∧ askK k.1 t y := by
  constructor
  · rintro ⟨k, hk, h, t, ht, ho⟩
    obtain ⟨h1, t1, ht1⟩ := hat k hk
    have e := at_fun ht (ht1.later hb)
    subst e
    exact ⟨k, hk, h1, t, ht1, ho⟩
  · rintro ⟨k, hk, h, t, ht, ho⟩
    exact ⟨k, hk, h, t, ht.later hb, ho⟩
set_option maxHeartbeats 2000000 in
set_option maxRecDepth 100000 in
theorem implNamesOf_any {K0 : Nat → Prop} {w : World} {h : Nat} (xs : List Tr) (od : Option Addr) (nd cd : Nat) (o : Option Addr) (c : Nat) (hx : RowOf K0 w (reads K0 w h).de 9 o xs) (hp : ∀ b, K0 b → b < w.heap.size ∧ PlainAt w ⟨b, 0, none⟩) (hT : (xs.map (wgt h).de).sum ≤ 5000000) (hl : xs.length ≤ 5000000) (l1 : List ByteArray) (hl1 : ∀ y, (∃ d ∈ xs, (bth h).de d y) ∧ y ≠ und → y ∈ l1) (hlen : l1.length ≤ 10000000) (hsz : ∀ y ∈ l1, y.size ≤ maxLen) :
    Calls Tryz.prog 7 #[.agg #[.slice od nd cd, .slice o xs.length c]] w fun e w' => ∃ v l, e = .returned v ∧ NRow w.heap.size w' v l ∧ Asc l ∧ (∀ y, y ∈ l ↔ (∃ d ∈ xs, (bth h).de d y) ∧ y ≠ und) ∧ Below w.heap.size w w' := by
  obtain ⟨V, hV⟩ : ∃ V, w.alloc (.cells #[.slice od nd cd, .slice o xs.length c] 32) = V := ⟨_, rfl⟩
  have hb0 : Below w.heap.size w V := by rw [← hV]; exact (Below.refl _ w).alloc (Nat.le_refl _) _
  have hbox : V.heap[w.heap.size]? = some (.cells #[.slice od nd cd, .slice o xs.length c] 32 (0, 0)) := by rw [← hV]; exact heap_alloc_new w _
  have y1 : V.cell? ⟨w.heap.size, 1, none⟩ = some (.slice o xs.length c) := cell_of hbox 1
  have HNET := hide (netOfDecs_any (K := K0) (w := V) (h := h) xs o c (hx.later hb0 fun _ _ hh => (reads_later hb0 h).2.1 _ _ hh) (fun b hb => by
    obtain ⟨h1, c, e, h2⟩ := hp b hb
    exact ⟨Nat.lt_of_lt_of_le h1 hb0.size, c, e, (hb0.block b h1).trans h2⟩) hT hl)
  have HB0 := hide hb0
  have HL1 := hide hl1
  have HSZ := hide hsz
  clear hx hp hb0 hbox hl1 hsz
  go_enter Tryz.func7, Tryz.ntmps7
  go_wp2_with fail
  refine Calls.mono HNET.out ?_
  rintro e w1 ⟨n, rfl, hN, hb1⟩
  obtain ⟨K, KP, KS, ks, L, hN1, hat, hkl, hbd, hNo, hR⟩ := net2_parts hN
  have HN1 := hide hN1
  have HAT := hide hat
  have HBD := hide hbd
  have HNO := hide hNo
  have HR := hide hR
  have HB1 := hide (HB0.out.trans (hb1.mono HB0.out.size))
  clear hN hN1 hat hbd hNo hR hb1 y1
  go_wp2_with fail
  refine Calls.mono (bound_any HNO.out) ?_
  rintro e w2 ⟨m, nn, rfl, hm, hml, hb2, hnn⟩
  have HM := hide hm
  have HB2 := hide (HB1.out.trans (hb2.mono HB1.out.size))
  have HASK := hide (asked_any (w := w2) (K := K) (HN1.out.later hb2) (fun k hk => by
    obtain ⟨h1, t1, ht1⟩ := HAT.out k hk
    exact ⟨h1, t1, ht1.later hb2⟩) hkl (fun k hk h t ht => by
    obtain ⟨h1, t1, ht1⟩ := HAT.out k hk
    have e := at_fun ht (ht1.later hb2)
    subst e
    exact HBD.out k hk h1 _ ht1))
  have HAL := hide (ask_later HAT.out hb2)
  clear hm hb2
  go_wp2_with fail
  refine Calls.mono HASK.out ?_
  rintro e w3 ⟨m2, n2, rfl, hs3, hn2, hb3, hm2⟩
  have hm3 := smap_kept HM.out hb3
  obtain ⟨D, hown, hhas, -⟩ := hs3
  obtain ⟨w4, hrun4, hrg4, hg4, hsz4⟩ := hown.range str_keyed Tryz.underlying56
  have hml3 := hm3.lt
  have hml2 := HM.out.lt
  have hml1 := HB1.out.size
  have hb23 := hb3.size
  have HB3 := hide (HB2.out.trans (hb3.mono HB2.out.size))
  have HB4 : Hid (Below w.heap.size w w4) := HB3.out.trans (below_grown hg4 HB3.out.size fun k hk => by cases hk)
  have hR2 : ∀ y, (∃ d ∈ xs, (bth h).de d y) ↔ (∃ k ∈ ks, ∃ h t, AtP w1 K k h t ∧ ownK k.1 t y) ∨ Maps.has D (.string y.toList) = true := fun y => by
    rw [HR.out y, ← HAL.out y]
    exact or_congr Iff.rfl (hhas y).symm
  have HR2 := hide hR2
  have HM4 : Hid (SMap w4 m nn fun y => (∃ k ∈ ks, ∃ h t, AtP w1 K k h t ∧ ownK k.1 t y)) := hm3.keep (hg4.block m hml3 (by simp))
  have hsl := hown.size_le
  have HRG4 := hide hrg4
  generalize hRB : (fun y => ∃ k ∈ ks, ∃ h t, AtP w1 K k h t ∧ ownK k.1 t y) = Rb at HM4
  have HR3 : Hid (∀ y, (∃ d ∈ xs, (bth h).de d y) ↔ Rb y ∨ Maps.has D (.string y.toList) = true) := by
    rw [← hRB]
    exact HR2.out
  generalize hR : w3.heap.size = r at hrun4 HRG4 hml3
  clear hrg4 hg4 hR2 HR2 hm3 hown hhas hb3 HM HAL HR HNO HBD HAT HN1 HASK HNET HB2 HB1 HB0 hRB
  go_wp2
  clear hrun4
  go_loopw [] (fun wr => ∃ (left : Lit → Bool) (cnt n3 : Nat), wr.ranges Tryz.prog 9 datS m2 r n2 D left cnt ∧ (∀ z, left z = true → Maps.has D z = true) ∧ SMap wr m n3 (fun y => Rb y ∨ (Maps.has D (.string y.toList) = true ∧ left (.string y.toList) = false)) ∧ n3 + cnt ≤ 50000015000000 ∧ Below w.heap.size w wr) (fun wr => wr.rangeLeft m2 r)
  case atStart =>
    refine ⟨_, _, nn, HRG4.out, fun z hz => hz, ?_, by omega, HB4.out⟩
    have e9 : (fun y => Rb y ∨ (Maps.has D (.string y.toList) = true ∧ Maps.has D (.string y.toList) = false)) = Rb := by
      funext y
      apply propext
      constructor
      · rintro (h1 | ⟨h1, h2⟩)
        · exact h1
        · rw [h1] at h2; cases h2
      · exact .inl
    rw [e9]
    exact HM4.out
  case round =>
    obtain ⟨left, cnt, n3, hrg, hle, hms, hn3, hb⟩ := hrel
    have hlq := hrg.left_eq
    rcases hrg.next str_keyed 0 with ⟨hc0, hl0, hnx⟩ | ⟨key, v, kl, y, u1, cnt1, hkey, hlk, hv, hat, hnx, hrg1, hlt, hgr, hsz, hen⟩
    · obtain ⟨w5, hdel, hm5, hg5⟩ := hms.del (s := und) (by unfold maxLen; decide) 0
      have HB5 : Hid (Below w.heap.size w w5) := hb.trans (below_grown hg5 hb.size fun k hk => by have e := Option.some.inj hk; omega)
      have HM5 : Hid (SMap w5 m n3 fun y => (∃ d ∈ xs, (bth h).de d y) ∧ y ≠ und) := by
        have e9 : (fun y => (Rb y ∨ (Maps.has D (.string y.toList) = true ∧ left (.string y.toList) = false)) ∧ y ≠ und) = fun y => (∃ d ∈ xs, (bth h).de d y) ∧ y ≠ und := by
          funext y
          rw [hl0, HR3.out y]
          simp
        rw [e9] at hm5
        exact hm5
      unfold und at hdel
      clear hrg hle hms hb hm5 hg5 hlq HRG4 HM4 HB4
      go_wp2_with fail
      refine Calls.mono (ascending_any HM5.out l1 HL1.out hlen (fun y hy => HSZ.out y (HL1.out y hy))) ?_
      rintro e w6 ⟨v, l, rfl, hn, hasc, hmem, hb6⟩
      have HN6 := hide (hn.base HB5.out.size)
      have HASC := hide hasc
      have HMEM := hide hmem
      have HB6 := hide (HB5.out.trans (hb6.mono HB5.out.size))
      clear hn hasc hmem hb6
      go_wp2
      go_ret
      exact ⟨_, l, rfl, HN6.out, HASC.out, HMEM.out, HB6.out⟩
    · obtain ⟨x, rfl, rfl, hxl⟩ := Maps.keyOf_str Tryz.underlying9 hkey
      have ex : encStr x = .string (ofB x) := rfl
      rw [ex] at hnx hen
      have hms1 := hms.keep (hgr.block m hms.lt (by simp; omega))
      obtain ⟨cc, u2, hlook, hcc, hup, hm2', hg2⟩ := hms1.inc (s := ofB x) (by simpa [ofB, ByteArray.size] using hxl) (by omega)
      have hrg2 := hrg1.kept hg2 (by simp; omega) (by simp; omega)
      have hb1 : Below w.heap.size w u1 := hb.trans (below_grown hgr hb.size fun k hk => by have e := Option.some.inj hk; omega)
      have HBN : Hid (Below w.heap.size w u2) := hb1.trans (below_grown hg2 hb1.size fun k hk => by have e := Option.some.inj hk; omega)
      have HLQ : Hid (u2.rangeLeft m2 r < wr.rangeLeft m2 r) := by
        show u2.rangeLeft m2 r < wr.rangeLeft m2 r
        rw [hrg2.left_eq, hlq]
        exact hlt
      have HMN : Hid (SMap u2 m (n3 + 1) fun y => Rb y ∨ (Maps.has D (.string y.toList) = true ∧ (left (.string y.toList) && !(Lit.string y.toList).sameKey (.string x)) = false)) := by
        have e9 : (fun y => (Rb y ∨ (Maps.has D (.string y.toList) = true ∧ left (.string y.toList) = false)) ∨ y = ofB x) = fun y => Rb y ∨ (Maps.has D (.string y.toList) = true ∧ (left (.string y.toList) && !(Lit.string y.toList).sameKey (.string x)) = false) := by
          funext y
          apply propext
          constructor
          · rintro ((h1 | ⟨h1, h2⟩) | h1)
            · exact .inl h1
            · exact .inr ⟨h1, by rw [h2]; rfl⟩
            · subst h1
              rw [ofB_list]
              exact .inr ⟨hle _ hlk, by rw [WideAt.sameKey_self (str_keyed.key hkey)]; simp⟩
          · rintro (h1 | ⟨h1, h2⟩)
            · exact .inl (.inl h1)
            · cases h3 : left (.string y.toList)
              · exact .inl (.inr ⟨h1, rfl⟩)
              · rw [h3] at h2
                cases h4 : (Lit.string y.toList).sameKey (.string x)
                · rw [h4] at h2; cases h2
                · have e := WideAt.sameKey_eq h4
                  injection e with e
                  refine .inr ?_
                  rw [← e]
                  exact (list_ofB y).symm
        rw [e9] at hm2'
        exact hm2'
      have HLE := hide hle
      have HRG2 := hide hrg2
      have hc1 : (cc : Int) + 1 ≤ 9223372036854775807 := by omega
      clear hrg hle hms hb hlq HRG4 HM4 HB4 hrg1 hrg2 hgr hms1 hm2' hg2 hb1 hat hv hlk hkey ex
      go_wp2
      go_roundw
      case rel => exact ⟨_, cnt1, n3 + 1, HRG2.out, fun z hz => HLE.out z (by simp at hz; exact hz.1), HMN.out, by omega, HBN.out⟩
      case measure => exact HLQ.out
end Go.Proofs.YtihjpkldefllgakGreat.Nm
