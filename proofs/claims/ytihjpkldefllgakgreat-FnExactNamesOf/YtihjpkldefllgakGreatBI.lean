/- The program's leadToExp, leadToDecs. -/
import Derived.Test.YtihjpkldefllgakGreatBH
namespace Go.Proofs.YtihjpkldefllgakGreat.Nm
open Go.ChangeShapes Go.WideShapes Go.ChangeAt Go.RowKit

def bOf (o : Option Addr) : Nat := (o.getD ⟨0, 0, none⟩).block
def fOf (o : Option Addr) : Nat := (o.getD ⟨0, 0, none⟩).off
def rowA (o : Option Addr) (sz d n : Nat) : List Addr := (List.range n).map fun i => ⟨bOf o, fOf o + i * sz + d, none⟩
theorem rowA_succ (o : Option Addr) (sz d n : Nat) : rowA o sz d (n + 1) = rowA o sz d n ++ [⟨bOf o, fOf o + n * sz + d, none⟩] := by simp [rowA, List.range_succ]
theorem keeps_drw (K : Nat → Prop) (w : World) : Keeps K w w.drew := ⟨rfl, rfl, rfl, Nat.le_refl _, fun _ _ => rfl⟩
set_option maxHeartbeats 2000000 in
set_option maxRecDepth 100000 in
theorem leadToExp_any {KP KS : Nat → Prop} {w : World} {n : Nat} {ks : List (Bool × Addr)} {L : Nat} (h : Net KP KS w n ks L) (hL : L ≤ 40000000) (hk : ks.length ≤ 40000000) (a : Addr) (ha : KP a.block) (f : Int) (ob : Option Addr) (nb cb : Nat) :
    Calls Tryz.prog 70 #[.pointer (some ⟨n, 0, none⟩), .pointer (some a), .agg #[.int .i64 f, .slice ob nb cb]] w fun e w' => ∃ new, e = .returned (.tuple #[]) ∧ Net KP KS w' n (ks ++ new) (L + 1) ∧ (new = [] ∨ new = [(true, a)]) ∧ (true, a) ∈ ks ++ new ∧ Keeps KS w w' := by
  obtain ⟨V, hV⟩ : ∃ V, w.alloc (.cells #[.int .i64 f, .slice ob nb cb] 135) = V := ⟨_, rfl⟩
  have hb0 : Below w.heap.size w V := by rw [← hV]; exact (Below.refl _ w).alloc (Nat.le_refl _) _
  have hsV : V.heap.size = w.heap.size + 1 := by rw [← hV]; simp
  have hbox : V.heap[w.heap.size]? = some (.cells #[.int .i64 f, .slice ob nb cb] 135 (0, 0)) := by rw [← hV]; exact heap_alloc_new w _
  have hkslt : ∀ b, KS b → b < w.heap.size := by obtain ⟨_, _, _, _, _, _, h9⟩ := h; exact h9.kslt
  have hkpks : ∀ b, KP b → KS b := by obtain ⟨_, _, _, _, _, _, h9⟩ := h; exact fun b hb => (h9.plain b hb).1
  have hm := (h.more hb0).later (Below.refl _ V).drew
  have HP1 := hide (placeOfExp_any hm (by omega) a ha)
  have HBOX := hide hbox
  have HK0 : Hid (Keeps KS w V) := keeps_of hb0 hkslt
  have b0 := cell_of hbox 0
  have b1 := cell_of hbox 1
  simp only [List.getElem?_toArray, List.getElem?_cons_succ, List.getElem?_cons_zero] at b0 b1
  have HKP := hide hkpks
  have HLE : Hid (∀ new, (new = [] ∨ new = [(true, a)]) → (ks ++ new).length ≤ 50000000) := fun new hn => by
    show (ks ++ new).length ≤ 50000000
    rcases hn with rfl | rfl
    · simp; omega
    · simp; omega
  clear h hm hbox hb0 hkslt hkpks
  go_enter Tryz.func70, Tryz.ntmps70
  go_upto_region 1 with fail
  go_region_with (first
    | (go_at_call 84; (with_reducible refine Calls.mono HP1.out ?_); rintro e w1 ⟨i, new, rfl, hN1, hnew, hidx, hkp⟩; have hbk := (hkp.block w.heap.size (.inr ⟨Nat.le_refl _, by omega⟩)).trans HBOX.out; have d0 := cell_of hbk 0; have d1 := cell_of hbk 1; simp only [List.getElem?_toArray, List.getElem?_cons_succ, List.getElem?_cons_zero] at d0 d1; have HL1 := hide (lead_any hN1 (by omega) i (List.getElem?_eq_some_iff.1 hidx).1 (HLE.out new hnew) f ob nb cb); have HNEW := hide hnew; have HIDX := hide (List.mem_of_getElem? hidx); have HKP1 := hide hkp; clear hN1 hnew hidx hkp hbk)
    | (go_at_call 83; (with_reducible refine Calls.mono HL1.out ?_); rintro e w2 ⟨rfl, hN2, hkp2⟩; have HN2 := hide hN2; have HKP2 := hide hkp2; clear hN2 hkp2))
  all_goals
    go_end0
    refine ⟨new, rfl, HN2.out.less (fun b hb => .inl hb) HKP.out, HNEW.out, HIDX.out, ?_⟩
    exact (HK0.out.trans (keeps_drw _ V)).trans ((HKP1.out.trans HKP2.out).mono fun b hb => .inl hb)
set_option maxHeartbeats 2000000 in
set_option maxRecDepth 100000 in
theorem leadToDecs_any {K KP KS : Nat → Prop} {R : Tr → List Value → Prop} {w : World} {n : Nat} {ks : List (Bool × Addr)} {L : Nat} (h : Net KP KS w n ks L) (xs : List Tr) (o : Option Addr) (c : Nat) (hx : RowOf K w R 9 o xs) (hL : L + xs.length ≤ 40000000) (hk : ks.length + xs.length ≤ 40000000) (hK : ∀ b, K b → KP b) (f : Int) (ob : Option Addr) (nb cb : Nat) :
    Calls Tryz.prog 71 #[.pointer (some ⟨n, 0, none⟩), .slice o xs.length c, .agg #[.int .i64 f, .slice ob nb cb]] w fun e w' => ∃ new, e = .returned (.tuple #[]) ∧ Net KP KS w' n (ks ++ new) (L + xs.length) ∧ new.Sublist ((rowA o 9 0 xs.length).map fun a => (false, a)) ∧ (∀ a ∈ rowA o 9 0 xs.length, (false, a) ∈ ks ++ new) ∧ Keeps KS w w' := by
  obtain ⟨V, hV⟩ : ∃ V, w.alloc (.cells #[.int .i64 f, .slice ob nb cb] 135) = V := ⟨_, rfl⟩
  have hb0 : Below w.heap.size w V := by rw [← hV]; exact (Below.refl _ w).alloc (Nat.le_refl _) _
  have hsV : V.heap.size = w.heap.size + 1 := by rw [← hV]; simp
  have hbox : V.heap[w.heap.size]? = some (.cells #[.int .i64 f, .slice ob nb cb] 135 (0, 0)) := by rw [← hV]; exact heap_alloc_new w _
  have hkslt : ∀ b, KS b → b < w.heap.size := by obtain ⟨_, _, _, _, _, _, h9⟩ := h; exact h9.kslt
  have hkpks : ∀ b, KP b → KS b := by obtain ⟨_, _, _, _, _, _, h9⟩ := h; exact fun b hb => (h9.plain b hb).1
  have HM := hide (h.more hb0)
  have HBOX := hide hbox
  have HK0 : Hid (Keeps KS w V) := keeps_of hb0 hkslt
  have HKP := hide hkpks
  have HX := hide hx
  have HKK := hide hK
  clear h hbox hb0 hkslt hkpks hx hK
  go_enter Tryz.func71, Tryz.ntmps71
  go_wp2
  go_loopw [9] (fun t9 wr => ∃ (i : Nat) (new : List (Bool × Addr)), i ≤ xs.length ∧ t9 = .int .i64 i ∧ Net KP (fun k => KS k ∨ (w.heap.size ≤ k ∧ k < V.heap.size)) wr n (ks ++ new) (L + i) ∧ new.Sublist ((rowA o 9 0 i).map fun a => (false, a)) ∧ (∀ a ∈ rowA o 9 0 i, (false, a) ∈ ks ++ new) ∧ Keeps (fun k => KS k ∨ (w.heap.size ≤ k ∧ k < V.heap.size)) V wr) (fun t9 _ => xs.length - (intOf t9).toNat)
  case atStart => exact ⟨0, [], Nat.zero_le _, rfl, by rw [List.append_nil]; exact HM.out, by simp, fun a ha => by simp [rowA] at ha, Keeps.refl _ _⟩
  case round =>
    obtain ⟨i, new, hi, rfl, hN, hsub, hmem, hkp⟩ := hrel
    have HN := hide hN
    have HSUB := hide hsub
    have HMEM := hide hmem
    have HKR := hide hkp
    by_cases hlt : i < xs.length
    · have hne : xs ≠ [] := by intro e; rw [e] at hlt; simp at hlt
      obtain ⟨b, off, rfl, kb, hbl, -⟩ := HX.out hne
      have hbk := (hkp.block w.heap.size (.inr ⟨Nat.le_refl _, by omega⟩)).trans HBOX.out
      have c0 := cell_of hbk 0
      have c1 := cell_of hbk 1
      simp only [List.getElem?_toArray, List.getElem?_cons_succ, List.getElem?_cons_zero] at c0 c1
      have hnl : new.length ≤ i := by
        have := hsub.length_le
        simpa [rowA] using this
      have HP1 := hide (placeOfDec_any (hN.later (Below.refl _ wr).drew) (by rw [List.length_append]; omega) ⟨b, off + i * 9, none⟩ (HKK.out b kb))
      have HBK := hide hbk
      clear hN hsub hmem hkp hbk hne
      go_upto_region 4 with fail
      go_region_with (first
        | (go_at_call 37; (with_reducible refine Calls.mono HP1.out ?_); rintro e w1 ⟨j, nw, rfl, hN1, hnew, hidx, hkp⟩; have hbk := (hkp.block w.heap.size (.inr ⟨Nat.le_refl _, by omega⟩)).trans HBK.out; have d0 := cell_of hbk 0; have d1 := cell_of hbk 1; simp only [List.getElem?_toArray, List.getElem?_cons_succ, List.getElem?_cons_zero] at d0 d1; have hjl := (List.getElem?_eq_some_iff.1 hidx).1; have hkl : (ks ++ new ++ nw).length ≤ 50000000 := (by rcases hnew with rfl | rfl <;> simp <;> omega); have HL1 := hide (lead_any hN1 (by omega) j hjl hkl f ob nb cb); have HNEW := hide hnew; have HIDX := hide (List.mem_of_getElem? hidx); have HKP1 := hide hkp; clear hN1 hnew hidx hkp hbk hkl hjl)
        | (go_at_call 83; (with_reducible refine Calls.mono HL1.out ?_); rintro e w2 ⟨rfl, hN2, hkp2⟩; have HN2 := hide hN2; have HKP2 := hide hkp2; clear hN2 hkp2))
      all_goals
        go_wp2
        go_roundw
        case rel =>
          have e0 : off + i * 9 + 0 = off + i * 9 := rfl
          refine ⟨i + 1, new ++ nw, by omega, by go_num, ?_, ?_, fun a ha => ?_, ?_⟩
          · have h9 := HN2.out
            rw [List.append_assoc] at h9
            exact h9
          · rw [rowA_succ, List.map_append]
            refine HSUB.out.append ?_
            rcases HNEW.out with h9 | h9
            · rw [h9]; exact List.nil_sublist _
            · rw [h9]; exact List.Sublist.refl _
          · rw [rowA_succ] at ha
            rw [← List.append_assoc]
            rcases List.mem_append.1 ha with ha | ha
            · exact List.mem_append_left _ (HMEM.out a ha)
            · rw [List.mem_singleton] at ha
              rw [ha]
              exact HIDX.out
          · exact (HKR.out.trans (keeps_drw _ wr)).trans (HKP1.out.trans HKP2.out)
        case measure => simp [intOf]; omega
    · have hie : i = xs.length := by omega
      subst hie
      clear hN hsub hmem hkp
      go_wp2
      go_end0
      refine ⟨new, rfl, HN.out.less (fun b hb => .inl hb) HKP.out, HSUB.out, HMEM.out, HK0.out.trans (HKR.out.mono fun b hb => .inl hb)⟩
end Go.Proofs.YtihjpkldefllgakGreat.Nm
