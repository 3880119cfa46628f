/- The model's l6Put, l6Join. -/
import Derived.Test.YtihjpkldefllgakGreatBA
namespace Go.Proofs.YtihjpkldefllgakGreat.Nm
open Go.ChangeShapes Go.WideShapes Go.ChangeAt Go.RowKit

theorem owns_set {w : World} {B : Nat} {e : TypeId} {g n c : Nat} {xs : List Value} (h : w.ownsRow B e 1 (.slice (some ⟨g, 0, none⟩) n c) n xs) (i : Nat) (u : Value) : (w.setCell ⟨g, i, none⟩ u).ownsRow B e 1 (.slice (some ⟨g, 0, none⟩) n c) n (xs.set i u) := by
  obtain ⟨hl, hc⟩ := h
  refine ⟨by rw [List.length_set]; exact hl, ?_⟩
  rcases hc with ⟨hv, -⟩ | ⟨g', cap, cur, hv, hb, hg, hn, hcap, hsz, htk⟩
  · cases hv
  · cases hv
    refine Or.inr ⟨g, c, cur.set! i u, rfl, hb, heap_set_same u hg, hn, hcap, by simpa using hsz, ?_⟩
    rw [← htk]
    simp [List.take_set]
theorem NRow.set {B : Nat} {w : World} {g n c : Nat} {l : List ByteArray} (h : NRow B w (.slice (some ⟨g, 0, none⟩) n c) l) (i : Nat) {t : ByteArray} (ht : t.size ≤ maxLen) : NRow B (w.setCell ⟨g, i, none⟩ (.string t)) (.slice (some ⟨g, 0, none⟩) n c) (l.set i t) := by
  obtain ⟨h1, h2, h3⟩ := h
  have hn : n = l.length := by
    rcases h1.2 with ⟨hv, -⟩ | ⟨g', cap, cur, hv, -⟩
    · cases hv
    · cases hv; rfl
  subst hn
  refine ⟨?_, fun s hs => ?_, by rw [List.length_set]; exact h3⟩
  · rw [List.length_set, List.map_set]
    exact owns_set h1 i _
  · rcases List.mem_or_eq_of_mem_set hs with hs | rfl
    · exact h2 s hs
    · exact ht
theorem NRow.some {B : Nat} {w : World} {v : Value} {l : List ByteArray} (h : NRow B w v l) (hne : l ≠ []) : ∃ g c, v = .slice (some ⟨g, 0, none⟩) l.length c ∧ l.length ≤ c ∧ B ≤ g ∧ g < w.heap.size ∧ (∀ (i : Nat) (s : ByteArray), l[i]? = some s → w.cell? ⟨g, i, none⟩ = some (.string s)) ∧ (∀ i, w.frozen? ⟨g, i, none⟩ = false) := by
  obtain ⟨⟨hl, hc⟩, hs, hm⟩ := h
  rcases hc with ⟨rfl, h0⟩ | ⟨g, cap, cur, rfl, hb, hg, hn, hcap, hsz, htk⟩
  · exact absurd (List.length_eq_zero_iff.1 h0) hne
  · refine ⟨g, cap, rfl, hn, hb, heap_lt hg, fun i s hi => ?_, fun i => frozen_of hg i⟩
    exact owns_cell hg htk i (by have := (List.getElem?_eq_some_iff.1 hi).1; omega) _ (by rw [List.getElem?_map, hi]; rfl)
theorem asc_put {l : List ByteArray} {s : ByteArray} {k : Nat} (h : Asc l) (hgt : ∀ x ∈ l.drop k, LtS s x) (hlt : ∀ x ∈ l.take k, LtS x s) : Asc (l.take k ++ s :: l.drop k) := by
  refine List.pairwise_append.2 ⟨h.sublist (List.take_sublist _ _), List.pairwise_cons.2 ⟨hgt, h.sublist (List.drop_sublist _ _)⟩, fun a ha b hb => ?_⟩
  rcases List.mem_cons.1 hb with rfl | hb
  · exact hlt a ha
  · exact ltS_trans (hlt a ha) (hgt b hb)
theorem take_lt {l : List ByteArray} {s : ByteArray} {k : Nat} (h : Asc l) (hk : k < l.length) (hx : LtS l[k] s) : ∀ x ∈ l.take (k + 1), LtS x s := by
  intro x hxm
  rw [List.take_succ_eq_append_getElem hk] at hxm
  rcases List.mem_append.1 hxm with h1 | h1
  · have h2 : Asc (l.take (k + 1)) := h.sublist (List.take_sublist _ _)
    rw [List.take_succ_eq_append_getElem hk] at h2
    exact ltS_trans ((List.pairwise_append.1 h2).2.2 x h1 _ (by simp)) hx
  · rw [List.mem_singleton] at h1
    rw [h1]
    exact hx
theorem mem_put {l : List ByteArray} {s : ByteArray} {k : Nat} (x : ByteArray) : x ∈ l.take k ++ s :: l.drop k ↔ x ∈ l ∨ x = s := by
  have h : x ∈ l ↔ x ∈ l.take k ∨ x ∈ l.drop k := by
    rw [← List.mem_append, List.take_append_drop]
  rw [h, List.mem_append, List.mem_cons]
  constructor
  · rintro (h | h | h)
    · exact .inl (.inl h)
    · exact .inr h
    · exact .inl (.inr h)
  · rintro ((h | h) | h)
    · exact .inl h
    · exact .inr (.inr h)
    · exact .inr (.inl h)
theorem shift_get {l : List ByteArray} {c : ByteArray} {k : Nat} (hk : k < l.length) : (l.take (k + 1) ++ c :: l.drop (k + 1))[k]? = some l[k] := by
  rw [List.getElem?_append_left (by rw [List.length_take]; omega), List.getElem?_take, if_pos (by omega), List.getElem?_eq_getElem hk]
theorem shift_set {l : List ByteArray} {c : ByteArray} {k : Nat} (hk : k < l.length) : (l.take (k + 1) ++ c :: l.drop (k + 1)).set (k + 1) l[k] = l.take k ++ l[k] :: l.drop k := by
  rw [List.set_append_right _ _ (by rw [List.length_take]; omega)]
  have e : k + 1 - (l.take (k + 1)).length = 0 := by rw [List.length_take]; omega
  rw [e, List.set_cons_zero, List.take_succ_eq_append_getElem hk, List.append_assoc, List.singleton_append]
  congr 2
  exact (List.drop_eq_getElem_cons hk).symm
theorem last_set {l : List ByteArray} {c s : ByteArray} {k : Nat} (hk : k ≤ l.length) : (l.take k ++ c :: l.drop k).set k s = l.take k ++ s :: l.drop k := by
  rw [List.set_append_right _ _ (by rw [List.length_take]; omega)]
  have e : k - (l.take k).length = 0 := by rw [List.length_take]; omega
  rw [e, List.set_cons_zero]
def PutP (l : List ByteArray) (s : ByteArray) (w : World) (e : Ending) (w' : World) : Prop := ∃ v l', e = .returned v ∧ NRow w.heap.size w' v l' ∧ Asc l' ∧ (∀ x, x ∈ l' ↔ x ∈ l ∨ (x = s ∧ s ≠ und)) ∧ l'.length ≤ l.length + 1 ∧ Below w.heap.size w w'

set_option maxHeartbeats 1000000 in
set_option maxRecDepth 100000 in
theorem put_any {K : Nat → Prop} (l : List ByteArray) (s : ByteArray) (o : Option Addr) (cap : Nat) (w : World) (hl : l.length ≤ 10000000) (hs : s.size ≤ maxLen) (hm : RowOf K w strR 1 o l) (ha : Asc l) :
    Calls Tryz.prog 32 #[.slice o l.length cap, .string s] w (PutP l s w) := by
  have HM := hide hm
  have HA := hide ha
  have HS := hide hs
  have hB0 : Below w.heap.size w (w.alloc (.cells #[] 9)) := (Below.refl _ w).alloc (Nat.le_refl _) _
  obtain ⟨v1, w1, hr1, hn1, hg1, hk1⟩ := (NRow.empty w).app (by simp) cap (hm.later hB0 fun _ _ h => h) (by simp only [List.length_nil]; omega) 27
  have HR1 := hide hr1
  rw [List.nil_append] at hn1
  have HN1 := hide hn1
  have hb1 : Below w.heap.size w w1 := hB0.trans (below_grown hg1 (by simp) fun k hk => by cases hk; exact Nat.le_refl _)
  have HB1 := hide hb1
  clear hm ha hs hB0 hr1 hg1 hk1
  by_cases hyes : hasS l s = true ∨ s.toList = [95]
  · have fin : PutP l s w (.returned v1) w1 := by
      refine ⟨v1, l, rfl, HN1.out, HA.out, fun x => ⟨.inl, fun h => ?_⟩, Nat.le_succ _, HB1.out⟩
      rcases h with h | ⟨rfl, hne⟩
      · exact h
      · rcases hyes with hy | hy
        · exact hasS_mem.1 hy
        · exact absurd (toList_inj (hy.trans und_list.symm)) hne
    have FIN := hide fin
    clear fin
    cases hh : hasS l s
    · have hu : (s.toList == [95]) = true := by
        rcases hyes with hy | hy
        · rw [hh] at hy; cases hy
        · rw [hy]; rfl
      have HH := hide hh
      clear hyes hh hn1 hb1
      go_enter Tryz.func32, Tryz.ntmps32
      go_wp2_with fail
      refine (has_any l o cap s w (by unfold maxLen; omega) HM.out).mono ?_
      rintro e w' ⟨rfl, hw⟩
      rw [HH.out, hw]
      clear hw
      go_wp2_with (at_builtin; refine Lib.wpList_append_run _ rfl _ _ _ _ rfl _ _ rfl rfl _ _ HR1.out ?_)
      go_ret
      exact FIN.out
    · have HH := hide hh
      clear hyes hh hn1 hb1
      go_enter Tryz.func32, Tryz.ntmps32
      go_wp2_with fail
      refine (has_any l o cap s w (by unfold maxLen; omega) HM.out).mono ?_
      rintro e w' ⟨rfl, hw⟩
      rw [HH.out, hw]
      clear hw
      go_wp2_with (at_builtin; refine Lib.wpList_append_run _ rfl _ _ _ _ rfl _ _ rfl rfl _ _ HR1.out ?_)
      go_ret
      exact FIN.out
  · have hh : hasS l s = false := by
      cases h : hasS l s
      · rfl
      · exact absurd (.inl h) hyes
    have hu : (s.toList == [95]) = false := by
      cases h : (s.toList == [95])
      · rfl
      · exact absurd (.inr (eq_of_beq h)) hyes
    have HNE : Hid (s ∉ l ∧ s ≠ und) := ⟨fun h => (by rw [hasS_mem.2 h] at hh; cases hh), fun h => hyes (.inr (by rw [h]; exact und_list))⟩
    have HH := hide hh
    have hB2 : Below w1.heap.size w1 (w1.alloc (.cells #[.string s] 9)) := (Below.refl _ w1).alloc (Nat.le_refl _) _
    obtain ⟨v2, w2, hr2, hn2, hg2, hk2⟩ := (hn1.later hB2).app (Nat.le_trans hb1.size hB2.size) 1 (one_row (heap_alloc_new w1 (.cells #[.string s] 9)) HS.out) (by simp only [List.length_singleton]; omega) 27
    rw [List.length_singleton] at hr2
    obtain ⟨g, c, rfl, hgc, hgB, hglt, hgcell, hgfz⟩ := hn2.some (by simp)
    have HR2 := hide hr2
    have HN2 := hide hn2
    have HB2 : Hid (Below w.heap.size w w2) := hb1.trans ((hB2.mono hb1.size).trans (below_grown hg2 (Nat.le_trans hb1.size hB2.size) fun k hk => ((hn1.later hB2).lt k hk).2))
    have hlen : (l ++ [s]).length = l.length + 1 := by simp
    rw [hlen] at HR2 HN2
    have hgB2 := hgB
    clear hyes hh hB2 hr2 hn2 hg2 hk2 hgc hgcell hgfz hn1 hb1 hlen hgB2
    go_enter Tryz.func32, Tryz.ntmps32
    go_wp2_with fail
    refine (has_any l o cap s w (by unfold maxLen; omega) HM.out).mono ?_
    rintro e w' ⟨rfl, hw⟩
    rw [HH.out, hw]
    clear hw
    go_wp2_with (at_builtin; first | refine Lib.wpList_append_run _ rfl _ _ _ _ rfl _ _ rfl rfl _ _ HR1.out ?_ | refine Lib.wpList_append_run _ rfl _ _ _ _ rfl _ _ rfl rfl _ _ HR2.out ?_)
    go_loopw [6] (fun t6 wr => ∃ (k : Nat) (d : ByteArray), k ≤ l.length ∧ t6 = .int .i64 k ∧ NRow w.heap.size wr (.slice (some ⟨g, 0, none⟩) (l.length + 1) c) (l.take k ++ d :: l.drop k) ∧ (∀ x ∈ l.drop k, LtS s x) ∧ Below w.heap.size w wr) (fun t6 _ => (intOf t6).toNat)
    case atStart =>
      refine ⟨l.length, s, Nat.le_refl _, by go_num, ?_, fun x hx => (by rw [List.drop_length] at hx; cases hx), HB2.out⟩
      rw [List.take_length, List.drop_length]
      exact HN2.out
    case round =>
      obtain ⟨k, d, hk, rfl, hnr, hgt, hbr⟩ := hrel
      have HN := hide hnr
      have HGT := hide hgt
      have HBR := hide hbr
      obtain ⟨g', c', hv, -, -, -, hcell, hfz⟩ := hnr.some (by simp)
      have hlen2 : (l.take k ++ d :: l.drop k).length = l.length + 1 := by
        rw [List.length_append, List.length_cons, List.length_take, List.length_drop]
        omega
      rw [hlen2] at hv
      cases hv
      have hfin : ∀ (W : World), W = wr.setCell ⟨g, k, none⟩ (.string s) → (∀ x ∈ l.take k, LtS x s) → PutP l s w (.returned (.slice (some ⟨g, 0, none⟩) (l.length + 1) c)) W := by
        intro W hW hlt
        subst hW
        have h9 := hnr.set k HS.out
        rw [last_set hk] at h9
        refine ⟨_, _, rfl, h9, asc_put HA.out hgt hlt, fun x => ?_, ?_, hbr.setCell hgB _⟩
        · rw [mem_put]
          exact ⟨fun h => h.imp id fun e => ⟨e, HNE.out.2⟩, fun h => h.imp id fun e => e.1⟩
        · rw [List.length_append, List.length_cons, List.length_take, List.length_drop]
          omega
      have HFIN := hide hfin
      have ck := hcell k d (by rw [List.getElem?_append_right (by rw [List.length_take]; omega), List.length_take, show k - min k l.length = 0 by omega]; rfl)
      have fk := hfz k
      clear hgt hbr hfin hlen2
      cases k with
      | zero =>
        clear hnr hcell hfz
        go_wp2
        go_ret
        exact HFIN.out _ rfl (fun x hx => by simp at hx)
      | succ j =>
        have hj : j < l.length := by omega
        have cj := hcell j _ (shift_get hj)
        have fj := hfz j
        cases ht : (Op.bytesLess l[j].toList s.toList || l[j].toList == s.toList)
        · have hlt : LtS s l[j] := by
            rw [Bool.or_eq_false_iff, less_eq, decide_eq_false_iff_not] at ht
            exact ltS_total ht.1 fun e => by rw [e] at ht; simp at ht
          have HLT := hide hlt
          clear hnr hcell hfz hlt
          go_wp2
          go_roundw
          case rel =>
            refine ⟨j, l[j], by omega, by go_num, ?_, fun x hx => ?_, HBR.out.setCell hgB _⟩
            · have h9 := HN.out.set (j + 1) (HN.out.2.1 l[j] (List.mem_of_getElem? (shift_get hj)))
              rw [shift_set hj] at h9
              exact h9
            · rw [List.drop_eq_getElem_cons hj] at hx
              rcases List.mem_cons.1 hx with rfl | hx
              · exact HLT.out
              · exact HGT.out x hx
          case measure => simp [intOf]
        · have hle : LtS l[j] s := by
            rw [Bool.or_eq_true, less_eq, decide_eq_true_eq] at ht
            rcases ht with ht | ht
            · exact ht
            · have e := (toList_beq _ _).1 ht
              exact absurd (e ▸ List.getElem_mem hj) HNE.out.1
          have HLE := hide hle
          clear hnr hcell hfz hle
          go_wp2
          go_ret
          exact HFIN.out _ rfl (take_lt HA.out hj HLE.out)

def JoinP (a b : List ByteArray) (w : World) (e : Ending) (w' : World) : Prop := ∃ v l', e = .returned v ∧ NRow w.heap.size w' v l' ∧ Asc l' ∧ (∀ x, x ∈ l' ↔ x ∈ a ∨ (x ∈ b ∧ x ≠ und)) ∧ l'.length ≤ a.length + b.length ∧ Below w.heap.size w w'
set_option maxHeartbeats 1000000 in
set_option maxRecDepth 100000 in
theorem join_any {K K' : Nat → Prop} (a b : List ByteArray) (oa ob : Option Addr) (ca cb : Nat) (w : World) (hl : a.length + b.length ≤ 10000000) (hma : RowOf K w strR 1 oa a) (hmb : RowOf K' w strR 1 ob b) (ha : Asc a) :
    Calls Tryz.prog 16 #[.slice oa a.length ca, .slice ob b.length cb] w (JoinP a b w) := by
  have HM := hide hmb
  have HA := hide ha
  have hB0 : Below w.heap.size w (w.alloc (.cells #[] 9)) := (Below.refl _ w).alloc (Nat.le_refl _) _
  obtain ⟨v1, w1, hr1, hn1, hg1, hk1⟩ := (NRow.empty w).app (by simp) ca (hma.later hB0 fun _ _ h => h) (by simp only [List.length_nil]; omega) 27
  have HR1 := hide hr1
  rw [List.nil_append] at hn1
  have HN1 := hide hn1
  have HB1 : Hid (Below w.heap.size w w1) := hB0.trans (below_grown hg1 (by simp) fun k hk => by cases hk; exact Nat.le_refl _)
  clear hma hmb ha hB0 hr1 hg1 hk1 hn1
  go_enter Tryz.func16, Tryz.ntmps16
  go_wp2_with (at_builtin; refine Lib.wpList_append_run _ rfl _ _ _ _ rfl _ _ rfl rfl _ _ HR1.out ?_)
  go_loopw [5, 6] (fun t5 t6 wr => ∃ (i : Nat) (l : List ByteArray), i ≤ b.length ∧ t6 = .int .i64 i ∧ NRow w.heap.size wr t5 l ∧ Asc l ∧ (∀ x, x ∈ l ↔ x ∈ a ∨ (x ∈ b.take i ∧ x ≠ und)) ∧ l.length ≤ a.length + i ∧ Below w.heap.size w wr) (fun _ t6 _ => b.length - (intOf t6).toNat)
  case atStart => exact ⟨0, a, Nat.zero_le _, rfl, HN1.out, HA.out, fun x => by simp, Nat.le_refl _, HB1.out⟩
  case round =>
    obtain ⟨i, l, hi, rfl, hn, hasc, hmem, hlen, hb⟩ := hrel
    have HN := hide hn
    have HASC := hide hasc
    have HMEM := hide hmem
    have HB := hide hb
    by_cases hlt : i < b.length
    · have hne : b ≠ [] := by intro e; rw [e] at hlt; simp at hlt
      have hrow := HM.out.later hb (R' := strR) fun _ _ h => h
      obtain ⟨bb, off, eo, -, -, hcs⟩ := hrow hne
      subst eo
      obtain ⟨_, -, hkey, rfl, hsz⟩ := hcs i _ (List.getElem?_eq_getElem hlt)
      have q0 := hkey 0 _ rfl
      rw [Nat.mul_one, Nat.add_zero] at q0
      obtain ⟨o5, c5, rfl, hf5, hr5⟩ := hn.rowOf
      have HR5 := hide hr5
      have HSZ := hide hsz
      clear hn hasc hmem hb hrow hcs hne hkey hr5 hf5 hsz
      go_wp2_with fail
      refine (put_any l _ o5 c5 wr (by omega) HSZ.out HR5.out HASC.out).mono ?_
      rintro e w2 ⟨v2, l2, rfl, hn2, hasc2, hmem2, hlen2, hb2⟩
      have HN2 := hide (hn2.base HB.out.size)
      have HASC2 := hide hasc2
      have HMEM2 := hide hmem2
      have HB2 := hide (HB.out.trans (hb2.mono HB.out.size))
      clear hn2 hasc2 hmem2 hb2
      go_wp2
      go_roundw
      case rel =>
        refine ⟨i + 1, l2, by omega, by go_num, HN2.out, HASC2.out, fun x => ?_, by omega, HB2.out⟩
        rw [HMEM2.out, HMEM.out, List.take_succ_eq_append_getElem hlt, List.mem_append, List.mem_singleton]
        constructor
        · rintro ((h | ⟨h1, h2⟩) | ⟨h1, h2⟩)
          · exact .inl h
          · exact .inr ⟨.inl h1, h2⟩
          · exact .inr ⟨.inr h1, h1 ▸ h2⟩
        · rintro (h | ⟨h1 | h1, h2⟩)
          · exact .inl (.inl h)
          · exact .inl (.inr ⟨h1, h2⟩)
          · exact .inr ⟨h1, h1 ▸ h2⟩
      case measure => simp [intOf]; omega
    · have hie : i = b.length := by omega
      subst hie
      clear hn hasc hmem hb
      go_wp2
      go_ret
      refine ⟨_, l, rfl, HN.out, HASC.out, fun x => ?_, hlen, HB.out⟩
      have h9 := HMEM.out x
      rw [List.take_length] at h9
      exact h9
end Go.Proofs.YtihjpkldefllgakGreat.Nm
