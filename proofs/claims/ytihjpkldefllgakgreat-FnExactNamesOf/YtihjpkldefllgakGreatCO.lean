/- The program's netOfDecs. -/
import Derived.Test.YtihjpkldefllgakGreatCN
import Derived.Test.YtihjpkldefllgakGreatBO
namespace Go.Proofs.YtihjpkldefllgakGreat.Nm
open Go.ChangeShapes Go.WideShapes Go.ChangeAt Go.RowKit

/-- A net at whose places just these names are bound or asked for. -/
def Net2 (R : ByteArray → Prop) (w' : World) (n : Nat) : Prop := ∃ (K KP KS : Nat → Prop) (ks : List (Bool × Addr)) (L : Nat), Net KP KS w' n ks L ∧ (∀ k ∈ ks, ∃ h t, AtP w' K k h t) ∧ (∀ y, R y ↔ ∃ k ∈ ks, ∃ h t, AtP w' K k h t ∧ othK k.1 t y) ∧ ks.length ≤ 5000000 ∧ (∀ k ∈ ks, ∀ h t, AtP w' K k h t → t.ss.length ≤ 5000000 ∧ t.al.length ≤ 5000000 ∧ (t.al.map fun a => a.ss.length).sum ≤ 5000000 ∧ t.s.size ≤ maxLen)
theorem Spr2.fin {w0 w' : World} {K : Nat → Prop} {R : ByteArray → Prop} {T L : Nat} {ks : List (Bool × Addr)} (h : Spr2 w0 K R T ks ks.length L) (hR : ∀ y, R y → ∃ k ∈ ks, ∃ h t, AtP w0 K k h t ∧ bthK k.1 h t y) (hst : Stays K w0 w') (hK : ∀ b, K b → b < w0.heap.size) :
    (∀ k ∈ ks, ∃ h t, AtP w' K k h t) ∧ (∀ y, R y ↔ ∃ k ∈ ks, ∃ h t, AtP w' K k h t ∧ othK k.1 t y) := by
  have hall : ∀ k ∈ ks, Kids w0 K ks k := fun k hk => h.done k (by rw [List.take_length]; exact hk)
  refine ⟨fun k hk => ?_, fun y => ⟨fun hy => ?_, fun hy => ?_⟩⟩
  · obtain ⟨h1, t1, hat, -, -⟩ := h.snd k hk
    exact ⟨h1, t1, hat.stay hst hK⟩
  · obtain ⟨k0, hk0, h0, t0, hat0, hb0⟩ := hR y hy
    obtain ⟨k', hk', h2, t2, hat2, hown⟩ := all_own2 hall h0 k0 hk0 h0 t0 hat0 y hb0
    exact ⟨k', hk', h2, t2, hat2.stay hst hK, hown⟩
  · obtain ⟨k', hk', h2, t2, hat2, hown⟩ := hy
    obtain ⟨h1, t1, hat, hs, -⟩ := h.snd k' hk'
    have e := at_fun (hat.stay hst hK) hat2
    subst e
    exact hs y (own_bth hat hown)
theorem at_bounds {w0 : World} {K : Nat → Prop} {R : ByteArray → Prop} {T : Nat} {k : Bool × Addr} {h1 : Nat} {t1 : Tr} (hs : Snd2 w0 K R T k) (hat : AtP w0 K k h1 t1) (hT : T ≤ 5000000) : t1.ss.length ≤ 5000000 ∧ t1.al.length ≤ 5000000 ∧ (t1.al.map fun a => a.ss.length).sum ≤ 5000000 ∧ t1.s.size ≤ maxLen := by
  obtain ⟨h2, t2, hat2, -, hw2⟩ := hs
  have e := at_fun hat2 hat
  subst e
  obtain ⟨kb, ka⟩ := k
  cases kb
  · obtain ⟨-, -, cs2, -, -, r⟩ := hat2
    cases h2 with
    | zero => exact r.elim
    | succ h2 =>
      have hsz := de_size (K := K) (w := w0) (h := h2 + 1) (d := t2) (cs := cs2) r
      obtain ⟨-, -, r3, -⟩ := r
      have h9 := de_len h2 t2
      have hw3 : (wgt (h2 + 1)).de t2 ≤ T := hw2
      rw [r3]
      refine ⟨by omega, by simp, by simp, hsz⟩
  · have h9 := al_len hat2
    have hw3 : (wgt h2).ex t2 ≤ T := hw2
    obtain ⟨-, -, cs2, -, -, r⟩ := hat2
    cases h2 with
    | zero => exact r.elim
    | succ h2 =>
      obtain ⟨r0, o1, c1, o2, c2, o3, c3, -, rs, -⟩ := r
      rw [r0]
      exact ⟨by simp, by omega, by omega, rs⟩
set_option maxHeartbeats 2000000 in
set_option maxRecDepth 100000 in
theorem netOfDecs_any {K : Nat → Prop} {w : World} {h : Nat} (xs : List Tr) (o : Option Addr) (c : Nat) (hx : RowOf K w (reads K w h).de 9 o xs) (hp : ∀ b, K b → b < w.heap.size ∧ PlainAt w ⟨b, 0, none⟩) (hT : (xs.map (wgt h).de).sum ≤ 5000000) (hl : xs.length ≤ 5000000) :
    Calls Tryz.prog 21 #[.slice o xs.length c] w fun e w' => ∃ n, e = .returned (.pointer (some ⟨n, 0, none⟩)) ∧ Net2 (fun y => ∃ d ∈ xs, (bth h).de d y) w' n ∧ Below w.heap.size w w' := by
  have HNN := hide (newNet_any K (fun b => b < w.heap.size) w (fun b hb => hb) hp)
  have HX := hide hx
  have HP := hide hp
  have hb2 := rowBud2 (w := w) (K := K) (R := fun y => ∃ d ∈ xs, (bth h).de d y) (o := o) (sz := 9) (d := 0) (b := false) (wgt h).de xs (fun i x hi => ⟨h, x, ⟨(de_at hx i x hi).2, fun y hy => ⟨x, List.mem_of_getElem? hi, hy⟩⟩, Nat.le_refl _⟩)
  have HBUD := hide hb2
  have HWLE : Hid (∀ x ∈ xs, (wgt h).de x ≤ (xs.map (wgt h).de).sum) := fun x hx => sum_mem_le (wgt h).de xs x hx
  clear hx hp hb2
  go_enter Tryz.func21, Tryz.ntmps21
  go_wp2_with fail
  refine Calls.mono HNN.out ?_
  rintro e w1 ⟨n, rfl, hN, hb1⟩
  have HN := hide hN
  have HB1 := hide hb1
  clear hN hb1
  go_wp2
  go_loopw [8] (fun t8 wr => ∃ (i : Nat) (ks : List (Bool × Addr)), i ≤ xs.length ∧ t8 = .int .i64 i ∧ Net K (fun b => b < w.heap.size) wr n ks 0 ∧ ks.Sublist ((rowA o 9 0 i).map fun a => (false, a)) ∧ (∀ a ∈ rowA o 9 0 i, (false, a) ∈ ks) ∧ Below w.heap.size w wr) (fun t8 _ => xs.length - (intOf t8).toNat)
  case atStart => exact ⟨0, [], Nat.zero_le _, rfl, HN.out, by simp, fun a ha => by simp [rowA] at ha, HB1.out⟩
  case round =>
    obtain ⟨i, ks, hi, rfl, hN, hsub, hmem, hb⟩ := hrel
    have HNR := hide hN
    have HSUB := hide hsub
    have HMEM := hide hmem
    have HB := hide hb
    have hkl : ks.length ≤ i := by
      have := hsub.length_le
      rw [List.length_map, row_len] at this
      exact this
    by_cases hlt : i < xs.length
    · have hne : xs ≠ [] := by intro e; rw [e] at hlt; simp at hlt
      obtain ⟨b, off, rfl, kb, -, -⟩ := HX.out hne
      have HPL := hide (placeOfDec_any hN (by omega) ⟨b, off + i * 9, none⟩ kb)
      clear hN hsub hmem hb hne
      go_wp2_with fail
      refine Calls.mono HPL.out ?_
      rintro e w2 ⟨j, nw, rfl, hN2, hnew, hidx, hkp⟩
      have HN2 := hide hN2
      have HNEW := hide hnew
      have HIDX := hide (List.mem_of_getElem? hidx)
      have HB2 : Hid (Below w.heap.size w w2) := HB.out.trans ⟨hkp.os, hkp.tape, hkp.output, hkp.size, fun b hb => hkp.block b hb⟩
      clear hN2 hnew hidx hkp
      go_wp2
      go_roundw
      case rel =>
        refine ⟨i + 1, ks ++ nw, by omega, by go_num, HN2.out, ?_, fun a ha => ?_, HB2.out⟩
        · rw [rowA_succ, List.map_append]
          refine HSUB.out.append ?_
          rcases HNEW.out with h9 | h9
          · rw [h9]; exact List.nil_sublist _
          · rw [h9]; exact List.Sublist.refl _
        · rw [rowA_succ] at ha
          rcases List.mem_append.1 ha with ha | ha
          · exact List.mem_append_left _ (HMEM.out a ha)
          · rw [List.mem_singleton] at ha
            rw [ha]
            exact HIDX.out
      case measure => simp [intOf]; omega
    · have hie : i = xs.length := by omega
      subst hie
      have HSP := hide (spread_any2 (w0 := w) (R := fun y => ∃ d ∈ xs, (bth h).de d y) (T := (xs.map (wgt h).de).sum) hN (Stays.of hb) (fun b hb => ⟨hb, (HP.out b hb).1⟩) ⟨⟨_, HBUD.out.sub hsub, by omega⟩, fun k hk => (by simp at hk), fun k hk => (by
        obtain ⟨a, ha, rfl⟩ := List.mem_map.1 (hsub.subset hk)
        obtain ⟨j, hj, rfl⟩ := List.mem_map.1 ha
        have hj2 := List.mem_range.1 hj
        exact ⟨h, _, (de_at HX.out j _ (List.getElem?_eq_getElem hj2)).2, fun y hy => ⟨_, List.getElem_mem hj2, hy⟩, HWLE.out _ (List.getElem_mem hj2)⟩), Nat.zero_le _⟩ hT)
      clear hN hsub hmem hb
      go_wp2_with fail
      refine Calls.mono HSP.out ?_
      rintro e w3 ⟨new, L', rfl, hN3, hS3, hkp3⟩
      have hb3 : Below w.heap.size w w3 := HB.out.trans ⟨hkp3.os, hkp3.tape, hkp3.output, hkp3.size, fun b hb => hkp3.block b hb⟩
      have HF : Hid (Net2 (fun y => ∃ d ∈ xs, (bth h).de d y) w3 n) := by
        obtain ⟨f1, f2⟩ := hS3.fin (fun y hy => by
          obtain ⟨d, hd, hy⟩ := hy
          obtain ⟨j, hj⟩ := List.mem_iff_getElem?.1 hd
          obtain ⟨m1, m2⟩ := de_at HX.out j d hj
          exact ⟨_, List.mem_append_left _ (HMEM.out _ m1), h, d, m2, hy⟩) (Stays.of hb3) (fun b hb => (HP.out b hb).1)
        obtain ⟨m, hbud, hmt⟩ := hS3.bud
        refine ⟨K, K, _, _, L', hN3, f1, f2, by omega, fun k hk h1 t1 hat1 => ?_⟩
        have hsn := hS3.snd k hk
        obtain ⟨h2, t2, hat2, -, -⟩ := hsn
        have e := at_fun (hat2.stay (Stays.of hb3) fun b hb => (HP.out b hb).1) hat1
        subst e
        exact at_bounds (hS3.snd k hk) hat2 hT
      have HB3 := hide hb3
      clear hN3 hS3 hkp3 hb3
      go_wp2
      go_ret
      exact ⟨n, rfl, HF.out, HB3.out⟩
end Go.Proofs.YtihjpkldefllgakGreat.Nm
