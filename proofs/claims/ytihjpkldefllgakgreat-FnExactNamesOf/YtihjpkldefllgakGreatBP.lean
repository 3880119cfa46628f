/- Maps of names; the program's ascending. -/
import Derived.Test.YtihjpkldefllgakGreatBB
import Derived.Test.YtihjpkldefllgakGreatShelf
import Derived.Maps.OwnSet
namespace Go.Proofs.YtihjpkldefllgakGreat.Nm
open Go.ChangeShapes Go.WideShapes Go.ChangeAt Go.RowKit

theorem str_keyed : Maps.Keyed Tryz.prog 9 := Maps.string_keyed Tryz.underlying9
theorem key_str {s : ByteArray} (hs : s.size ≤ maxLen) : keyOf Tryz.prog 9 (.string s) = some (.string s.toList) := by
  rw [ByteArray.toList_eq]
  simp [keyOf, Tryz.underlying9, mapKey, hs]
theorem zero_cnt (w : World) : (zeroValue 3).run Tryz.prog w = .ok (.int .i64 0) w := by
  have hi : (Tryz.prog.info? 3).map (fun i => (i.zero, i.size, i.bytes)) = some (some (.int .i64 0), 1, 8) := by kernel_rfl
  obtain ⟨i0, h1, h2, -, -⟩ := info_parts hi
  simp [zeroValue, typeInfo, h1, h2]
/-- In a block lies a map of counts: just these names are in it. -/
def SMap (w : World) (m nn : Nat) (S : ByteArray → Prop) : Prop := ∃ D : DataW Unit, w.ownsMap Tryz.prog 9 (plainElem Tryz.prog 3) m nn D ∧ (∀ s : ByteArray, Maps.has D (.string s.toList) = true ↔ S s) ∧ (∀ (s : ByteArray) (c : Int), D.atKey (.string s.toList) (.lit (.int .i64 0)) = .lit (.int .i64 c) → 0 ≤ c ∧ c ≤ nn)
theorem SMap.new (w : World) : SMap (w.alloc (.map #[] 0)) w.heap.size 0 fun _ => False :=
  ⟨.map [], World.ownsMap_made w _ _ _, fun s => by simp [Maps.has], fun s c h => by
    have h2 : (DataW.lit (Lit.int .i64 0) : DataW Unit) = .lit (.int .i64 c) := h
    injection h2 with h2
    injection h2 with _ h2
    omega⟩
theorem SMap.keep {w w' : World} {m nn : Nat} {S : ByteArray → Prop} (h : SMap w m nn S) (hb : w'.heap[m]? = w.heap[m]?) : SMap w' m nn S := by
  obtain ⟨D, ⟨es, clock, h1, h2⟩, h3⟩ := h
  exact ⟨D, ⟨es, clock, hb.trans h1, h2⟩, h3⟩
theorem SMap.lt {w : World} {m nn : Nat} {S : ByteArray → Prop} (h : SMap w m nn S) : m < w.heap.size := by
  obtain ⟨D, h1, -⟩ := h
  exact h1.lt
/-- A name's count is one more. -/
theorem SMap.inc {w : World} {m nn : Nat} {S : ByteArray → Prop} (h : SMap w m nn S) {s : ByteArray} (hs : s.size ≤ maxLen) (hn : nn ≤ 4000000000000000000) :
    ∃ (c : Nat) (w' : World), (Instr.lookup 54 (.map (some m)) (.string s) false).run Tryz.prog w = .ok (.int .i64 c) w ∧ (c : Int) ≤ nn ∧ (Instr.mapUpdate 54 (.map (some m)) (.string s) (.int .i64 ((c : Int) + 1))).run Tryz.prog w = .ok () w' ∧ SMap w' m (nn + 1) (fun y => S y ∨ y = s) ∧ w.grownBy w' (some m) := by
  obtain ⟨D, hown, hhas, hcnt⟩ := h
  obtain ⟨c, hrun, hat, hwf⟩ := hown.lookup_int str_keyed Tryz.underlying54 Tryz.underlying3 (zero_cnt w) (key_str hs)
  obtain ⟨h0, h1⟩ := hcnt s c hat
  obtain ⟨k, rfl⟩ : ∃ k : Nat, c = k := ⟨c.toNat, by omega⟩
  have hw2 : (Lit.int .i64 ((k : Int) + 1)).wf = true := by
    simp [Lit.wf]
    exact ⟨by show (-9223372036854775808 : Int) ≤ _; omega, by omega⟩
  obtain ⟨w', hr2, hown2, hg⟩ := hown.update str_keyed Tryz.underlying54 (by unfold maxLen; omega) (key_str hs) (plainElem_int (H := Unit) Tryz.underlying3 hw2)
  refine ⟨k, w', hrun, h1, hr2, ⟨_, hown2, fun y => ?_, fun y c hc => ?_⟩, hg⟩
  · by_cases e : y = s
    · subst e
      rw [Maps.has_put_same hown.isMap (str_keyed.key (key_str hs))]
      simp
    · have hne : (Lit.string y.toList) ≠ .string s.toList := fun h => e (toList_inj (by injection h))
      rw [Maps.has_put_other hne, hhas]
      simp [e]
  · by_cases e : y = s
    · subst e
      rw [Maps.atKey_put_same hown.isMap (str_keyed.key (key_str hs))] at hc
      injection hc with hc
      injection hc with _ hc
      omega
    · have hne : (Lit.string y.toList) ≠ .string s.toList := fun h => e (toList_inj (by injection h))
      rw [Maps.atKey_put_other hne] at hc
      have := hcnt y c hc
      omega
theorem SMap.del {w : World} {m nn : Nat} {S : ByteArray → Prop} (h : SMap w m nn S) {s : ByteArray} (hs : s.size ≤ maxLen) (ty : TypeId) :
    ∃ (w' : World), (Builtin.delete_ #[54, 9] ty #[.map (some m), .string s]).run Tryz.prog w = .ok (.tuple #[]) w' ∧ SMap w' m nn (fun y => S y ∧ y ≠ s) ∧ w.grownBy w' (some m) := by
  obtain ⟨D, hown, hhas, hcnt⟩ := h
  obtain ⟨w', hr2, hown2, hg⟩ := hown.drop str_keyed Tryz.underlying54 (key_str hs) ty
  refine ⟨w', hr2, ⟨_, hown2, fun y => ?_, fun y c hc => ?_⟩, hg.grown⟩
  · by_cases e : y = s
    · subst e
      rw [Maps.has_del_same]
      simp
    · have hne : (Lit.string y.toList) ≠ .string s.toList := fun h => e (toList_inj (by injection h))
      rw [Maps.has_del_other hne, hhas]
      simp [e]
  · by_cases e : y = s
    · subst e
      rw [Maps.atKey_del_same] at hc
      injection hc with hc
      injection hc with _ hc
      omega
    · have hne : (Lit.string y.toList) ≠ .string s.toList := fun h => e (toList_inj (by injection h))
      rw [Maps.atKey_del_other hne] at hc
      exact hcnt y c hc
theorem nodup_len {α : Type} [DecidableEq α] : ∀ {l m : List α}, l.Nodup → (∀ x ∈ l, x ∈ m) → l.length ≤ m.length := by
  intro l
  induction l with
  | nil => intro m _ _; exact Nat.zero_le _
  | cons a l ih =>
    intro m hn hs
    obtain ⟨h1, h2⟩ := List.nodup_cons.1 hn
    have ha := hs a (by simp)
    have h3 := ih (m := m.erase a) h2 fun x hx => (List.mem_erase_of_ne (a := x) (b := a) (fun e => h1 (by rw [← e]; exact hx))).2 (hs x (by simp [hx]))
    rw [List.length_erase_of_mem ha] at h3
    have h4 : 0 < m.length := List.length_pos_of_mem ha
    rw [List.length_cons]
    omega
theorem SMap.keys {D : DataW Unit} {w : World} {m nn : Nat} (hown : w.ownsMap Tryz.prog 9 (plainElem Tryz.prog 3) m nn D) : (strKeys D).Nodup ∧ (∀ x, x ∈ strKeys D ↔ Maps.has D (.string x) = true) ∧ Maps.size D = (strKeys D).length := by
  obtain ⟨es, rfl, hk⟩ := hown.keysOf
  obtain ⟨es', e, hp⟩ := hown.tidy str_keyed
  cases e
  have hks : ∀ p ∈ es, ∃ x, p.1 = .string x := fun p hp => by
    obtain ⟨v, hv⟩ := hk p hp
    obtain ⟨x, -, hx, -⟩ := Maps.keyOf_str Tryz.underlying9 hv
    exact ⟨x, hx⟩
  refine ⟨?_, fun x => ?_, by simp [strKeys, Maps.size]⟩
  · show (es.map fun p => strOf p.1).Nodup
    refine List.pairwise_map.2 (hp.imp_of_mem fun {p q} hp' hq' hne e => hne ?_)
    obtain ⟨a, ha⟩ := hks p hp'
    obtain ⟨b, hb⟩ := hks q hq'
    rw [ha, hb] at e ⊢
    exact congrArg _ e
  · rw [Maps.has_eq, List.any_eq_true]
    show x ∈ es.map (fun p => strOf p.1) ↔ _
    rw [List.mem_map]
    constructor
    · rintro ⟨p, hp', rfl⟩
      obtain ⟨a, ha⟩ := hks p hp'
      exact ⟨p, hp', by rw [ha]; simp [Lit.sameKey, strOf]⟩
    · rintro ⟨p, hp', hs⟩
      obtain ⟨a, ha⟩ := hks p hp'
      rw [ha] at hs
      exact ⟨p, hp', by rw [ha]; simpa [Lit.sameKey, strOf] using hs⟩
def ofB (x : List UInt8) : ByteArray := ⟨x.toArray⟩
theorem ofB_list (x : List UInt8) : (ofB x).toList = x := by unfold ofB; simp
theorem list_ofB (s : ByteArray) : ofB s.toList = s := toList_inj (ofB_list _)
set_option maxHeartbeats 1000000 in
set_option maxRecDepth 100000 in
theorem ascending_any {w : World} {m nn : Nat} {S : ByteArray → Prop} (h : SMap w m nn S) (l1 : List ByteArray) (hl1 : ∀ y, S y → y ∈ l1) (hlen : l1.length ≤ 10000000) (hsz : ∀ y, S y → y.size ≤ maxLen) :
    Calls Tryz.prog 24 #[.map (some m)] w fun e w' => ∃ v l, e = .returned v ∧ NRow w.heap.size w' v l ∧ Asc l ∧ (∀ y, y ∈ l ↔ S y) ∧ Below w.heap.size w w' := by
  obtain ⟨D, hown, hhas, -⟩ := h
  obtain ⟨hnd, hmem, hsize⟩ := SMap.keys hown
  have hle : (strKeys D).length ≤ 10000000 := by
    have h9 := nodup_len (m := l1.map ByteArray.toList) hnd fun x hx => by
      have h8 := (hhas (ofB x)).1 (by rw [ofB_list]; exact (hmem x).1 hx)
      exact List.mem_map.2 ⟨_, hl1 _ h8, ofB_list x⟩
    rw [List.length_map] at h9
    omega
  have HSO := hide (callsIn_wide.1 (Tryz.slices_Sorted_keys_40_41 m nn D (plainElem Tryz.prog 3) w hown (by unfold maxLen; omega) (by omega)))
  have HKE := hide (callsIn_wide.1 (Tryz.maps_Keys_41 (some m) w))
  have HND := hide hnd
  have HMEM := hide hmem
  have HHAS := hide hhas
  have HSZ := hide hsz
  clear hown hhas hnd hmem hl1 hsz
  go_enter Tryz.func24, Tryz.ntmps24
  go_wp2_with fail
  refine Calls.mono HKE.out ?_
  rintro e w1 ⟨rfl, rfl⟩
  go_wp2_with fail
  refine Calls.mono HSO.out ?_
  rintro e w2 ⟨v, ss, rfl, hper, hrow, -, hb⟩
  have HF : Hid (∃ v' l, Ending.returned v = .returned v' ∧ NRow w.heap.size w2 v' l ∧ Asc l ∧ (∀ y, y ∈ l ↔ S y) ∧ Below w.heap.size w w2) := by
    have hms := List.mergeSort_perm ss (fun x y => decide (x ≤ y))
    have hmm : ∀ x, x ∈ ss.mergeSort (fun x y => decide (x ≤ y)) ↔ x ∈ strKeys D := fun x => (hms.trans hper).mem_iff
    have hb0 : Below w.heap.size w (w.alloc (.cells #[.map (some m)] 54)) := (Below.refl _ w).alloc (Nat.le_refl _) _
    have hmemS : ∀ y, y ∈ (ss.mergeSort (fun x y => decide (x ≤ y))).map ofB ↔ S y := fun y => by
      rw [List.mem_map]
      constructor
      · rintro ⟨x, hx, rfl⟩
        exact (HHAS.out _).1 (by rw [ofB_list]; exact (HMEM.out x).1 ((hmm x).1 hx))
      · intro hy
        exact ⟨y.toList, (hmm _).2 ((HMEM.out _).2 ((HHAS.out y).2 hy)), list_ofB y⟩
    have hlens : (ss.mergeSort (fun x y => decide (x ≤ y))).length = ss.length := hms.length_eq
    refine ⟨v, (ss.mergeSort (fun x y => decide (x ≤ y))).map ofB, rfl, ⟨?_, fun s hs => HSZ.out s ((hmemS s).1 hs), ?_⟩, ?_, hmemS, hb0.trans (hb.mono hb0.size)⟩
    · rw [List.length_map, hlens, List.map_map]
      exact owns_base hrow fun g hg => Nat.le_trans hb0.size (owns_lt hrow g hg).2
    · rw [List.length_map, hlens, hper.length_eq]
      unfold maxLen
      omega
    · refine List.pairwise_map.2 ?_
      have tr : ∀ a b c : List UInt8, decide (a ≤ b) = true → decide (b ≤ c) = true → decide (a ≤ c) = true := fun a b c h1 h2 => by
        simp only [decide_eq_true_eq] at *
        exact List.le_trans h1 h2
      have tot : ∀ a b : List UInt8, (decide (a ≤ b) || decide (b ≤ a)) = true := fun a b => by
        simp only [Bool.or_eq_true, decide_eq_true_eq]
        exact List.le_total a b
      have hs := List.pairwise_mergeSort tr tot ss
      have hn : (ss.mergeSort (fun x y => decide (x ≤ y))).Nodup := (hms.trans hper).nodup_iff.2 HND.out
      refine (hs.and hn).imp fun {a b} hab => ?_
      unfold LtS
      rw [ofB_list, ofB_list]
      obtain ⟨h1, h2⟩ := hab
      rw [decide_eq_true_eq] at h1
      rcases Classical.em (a < b) with h3 | h3
      · exact h3
      · exact absurd (List.le_antisymm h1 (List.not_lt.1 h3)) h2
  clear hper hrow hb
  go_wp2
  go_ret
  exact HF.out
end Go.Proofs.YtihjpkldefllgakGreat.Nm
