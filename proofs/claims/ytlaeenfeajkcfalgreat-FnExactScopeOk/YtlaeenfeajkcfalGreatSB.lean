/- Made of BA, BB, XB, XC, XD. -/
import Derived.Test.YtlaeenfeajkcfalGreatSA
import Derived.Laws.OwnMore
import Derived.Lib.AppendZeros
import Derived.Deep.DeepCutAuto
import Derived.Deep.CutBlock
import Derived.Laws.MakeOwn
namespace Go.Proofs.YtlaeenfeajkcfalGreat.Nm
open Go.ChangeShapes Go.WideShapes Go.ChangeAt Go.RowKit

theorem less_eq : ∀ (x y : List UInt8), Op.bytesLess x y = decide (x < y)
  | [], [] => by simp [Op.bytesLess]
  | _ :: _, [] => by simp [Op.bytesLess]
  | [], _ :: _ => by simp [Op.bytesLess]
  | a :: x, b :: y => by
    rw [Op.bytesLess, less_eq x y]
    simp only [List.cons_lt_cons_iff]
    by_cases h1 : a < b <;> by_cases h2 : a = b <;> by_cases h3 : x < y <;> simp [h1, h2, h3]
theorem toList_inj {a b : ByteArray} (h : a.toList = b.toList) : a = b := by
  rw [ByteArray.toList_eq, ByteArray.toList_eq] at h
  cases a
  cases b
  exact congrArg ByteArray.mk (Array.toList_inj.1 h)
theorem toList_beq (a b : ByteArray) : (a.toList == b.toList) = true ↔ a = b := by
  rw [beq_iff_eq]
  exact ⟨toList_inj, fun h => by rw [h]⟩
/-- What no name is: the stroke below. -/
def und : ByteArray := ⟨#[95]⟩
theorem und_list : und.toList = [95] := by kernel_rfl
def LtS (a b : ByteArray) : Prop := a.toList < b.toList
def Asc (l : List ByteArray) : Prop := l.Pairwise LtS
theorem ltS_trans {a b c : ByteArray} (h : LtS a b) (k : LtS b c) : LtS a c := List.lt_trans h k
theorem ltS_irrefl (a : ByteArray) : ¬ LtS a a := List.lt_irrefl _
theorem ltS_total {a b : ByteArray} (h : ¬ LtS a b) (hne : a ≠ b) : LtS b a := by
  unfold LtS at *
  rcases List.le_total a.toList b.toList with h1 | h1
  · rcases Classical.em (a.toList < b.toList) with h2 | h2
    · exact absurd h2 h
    · exact absurd (toList_inj (List.le_antisymm h1 (List.not_lt.1 h2))) hne
  · rcases Classical.em (b.toList < a.toList) with h2 | h2
    · exact h2
    · exact absurd (toList_inj (List.le_antisymm (List.not_lt.1 h2) h1)) hne
/-- A row of names that is owned. -/
def NRow (B : Nat) (w : World) (v : Value) (l : List ByteArray) : Prop := w.ownsRow B 9 1 v l.length (l.map Value.string) ∧ (∀ s ∈ l, s.size ≤ maxLen) ∧ l.length ≤ maxLen
theorem str_info : (Tryz.prog.info? 9).map (fun i => (i.zero, i.size, i.bytes)) = some (some (.string ⟨#[]⟩), 1, 16) := by kernel_rfl
theorem NRow.rowOf {B : Nat} {w : World} {v : Value} {l : List ByteArray} (h : NRow B w v l) : ∃ o cap, v = .slice o l.length cap ∧ Fits l.length cap ∧ RowOf (fun b => B ≤ b ∧ v.ownBlock = some b) w strR 1 o l := by
  obtain ⟨⟨hl, hc⟩, hs, hm⟩ := h
  rcases hc with ⟨rfl, h0⟩ | ⟨g, cap, cur, rfl, hb, hg, hn, hcap, hsz, htk⟩
  · have hts : l = [] := List.length_eq_zero_iff.1 h0
    subst hts
    exact ⟨none, 0, rfl, ⟨hm, Nat.le_refl _⟩, fun h => absurd rfl h⟩
  · refine ⟨some ⟨g, 0, none⟩, cap, rfl, ⟨hm, hn⟩, fun _ => ⟨g, 0, rfl, ⟨hb, rfl⟩, heap_lt hg, fun i t ht => ?_⟩⟩
    have hi : i < l.length := (List.getElem?_eq_some_iff.1 ht).1
    refine ⟨[.string t], rfl, fun j u hu => ?_, rfl, hs t (List.mem_of_getElem? ht)⟩
    have hj : j = 0 := by
      have := (List.getElem?_eq_some_iff.1 hu).1
      simpa using this
    subst hj
    have hu2 : Value.string t = u := by simpa using hu
    subst hu2
    have e0 : 0 + i * 1 + 0 = i := by omega
    rw [e0]
    exact owns_cell hg htk i (by omega) _ (by rw [List.getElem?_map, ht]; rfl)
theorem NRow.block {B : Nat} {w w' : World} {v : Value} {l : List ByteArray} (h : NRow B w v l) (hb : ∀ g, v.ownBlock = some g → w'.heap[g]? = w.heap[g]?) : NRow B w' v l := ⟨owns_block h.1 hb, h.2⟩
theorem NRow.lt {B : Nat} {w : World} {v : Value} {l : List ByteArray} (h : NRow B w v l) : ∀ g, v.ownBlock = some g → g < w.heap.size ∧ B ≤ g := owns_lt h.1
theorem NRow.later {B : Nat} {w w' : World} {v : Value} {l : List ByteArray} (h : NRow B w v l) (hb : Below w.heap.size w w') : NRow B w' v l := h.block fun g hg => hb.block g (h.lt g hg).1
theorem NRow.base {B B' : Nat} {w : World} {v : Value} {l : List ByteArray} (h : NRow B w v l) (hb : B' ≤ B) : NRow B' w v l := ⟨owns_base h.1 fun g hg => Nat.le_trans hb (h.lt g hg).2, h.2⟩
theorem NRow.empty (w : World) : NRow w.heap.size (w.alloc (.cells #[] 9)) (.slice (some ⟨w.heap.size, 0, none⟩) 0 0) [] := ⟨owns_empty w 9 1, fun s hs => (by cases hs), Nat.zero_le _⟩
/-- An append onto an owned row, whatever the other one is. -/
theorem app_run {P : Program} {T E : TypeId} {i0 : TypeInfo} {z : Value} {sz bytes : Nat} (hT : P.underlying T = some (.slice E)) (hi : P.info? E = some i0) (hz : i0.zero = some z) (hsz : i0.size = sz) (hby : i0.bytes = bytes) (hzs : z.cells.size = sz) (h0 : 0 < sz) (hb : bytes ≤ 1000)
    {B : Nat} {w : World} {v : Value} {n : Nat} {xs : List Value} (h : w.ownsRow B E sz v n xs) (hB : B ≤ w.heap.size) (o : Option Addr) (m c : Nat) (news : List Value) (hl : news.length = m * sz) (ho : m ≠ 0 → ∃ b off, o = some ⟨b, off, none⟩ ∧ ∀ j u, news[j]? = some u → w.cell? ⟨b, off + j, none⟩ = some u) (h1 : ∀ u ∈ news, u.oneCell' = true)
    (hn : n + m ≤ 100000000) (ty : TypeId) :
    ∃ v' w', (Builtin.append_ #[T, T] ty #[v, .slice o m c]).run P w = .ok v' w' ∧ w'.ownsRow B E sz v' (n + m) (xs ++ news) ∧ w.grownBy w' v.ownBlock ∧ (v'.ownBlock = v.ownBlock ∨ v'.ownBlock = some w.heap.size) := by
  have hbt : (n + m) * bytes ≤ 140737488355328 := by
    have h5 : (n + m) * bytes ≤ 100000000 * 1000 := Nat.mul_le_mul hn hb
    omega
  have key : ∀ a : Addr, (∀ j u, news[j]? = some u → w.cell? (a.add j) = some u) → ∃ v' w', (Builtin.append_ #[T, T] ty #[v, .slice (some a) m c]).run P w = .ok v' w' ∧ w'.ownsRow B E sz v' (n + m) (xs ++ news) ∧ w.grownBy w' v.ownBlock ∧ (v'.ownBlock = v.ownBlock ∨ v'.ownBlock = some w.heap.size) := fun a ha => by
    obtain ⟨v', w', hr, hown, hgr, -, hbk⟩ := run_append_own_at (P := P) w B T ty E i0 z sz bytes hT hi hz hsz hby hzs h0 v n xs h a m c news hl ha h1 (by unfold maxLen; omega) hbt hB
    exact ⟨v', w', hr, hown, hgr, hbk⟩
  by_cases hm : m = 0
  · subst hm
    have hnil : news = [] := List.eq_nil_of_length_eq_zero (by simpa using hl)
    subst hnil
    cases o with
    | some a => exact key a fun j u hu => by simp at hu
    | none =>
      have hr : (Builtin.append_ #[T, T] ty #[v, .slice none 0 c]).run P w = .ok v w := by
        rcases h.2 with ⟨rfl, rfl⟩ | ⟨g, cap, cur, rfl, _, _, hnc, _⟩
        · simp [Builtin.append_, run_underlying hT, sizeOf, typeInfo, hi, Builtin.lenOf, Builtin.firstCells]
        · simp [Builtin.append_, run_underlying hT, sizeOf, typeInfo, hi, Builtin.lenOf, Builtin.firstCells, hnc, storeCells]
      refine ⟨v, w, hr, by simpa using h, ⟨rfl, rfl, rfl, Nat.le_refl _, fun _ _ _ => rfl⟩, .inl rfl⟩
  · obtain ⟨b, off, rfl, hc⟩ := ho hm
    exact key _ fun j u hu => by
      have h9 := hc j u hu
      unfold Addr.add
      split
      · rename_i e0
        rw [e0] at h9
        exact h9
      · simpa using h9
/-- A row of names that is read is put behind an owned one. -/
theorem NRow.app {K : Nat → Prop} {B : Nat} {w : World} {v : Value} {l m : List ByteArray} (h : NRow B w v l) (hB : B ≤ w.heap.size) {o : Option Addr} (c : Nat) (hm : RowOf K w strR 1 o m) (hn : l.length + m.length ≤ 100000000) (ty : TypeId) :
    ∃ v' w', (Builtin.append_ #[38, 38] ty #[v, .slice o m.length c]).run Tryz.prog w = .ok v' w' ∧ NRow B w' v' (l ++ m) ∧ w.grownBy w' v.ownBlock ∧ (v'.ownBlock = v.ownBlock ∨ v'.ownBlock = some w.heap.size) := by
  obtain ⟨i0, hi, hz0, hz1, hz2⟩ := info_parts str_info
  obtain ⟨v', w', hr, hown, hgr, hbk⟩ := app_run (P := Tryz.prog) Tryz.underlying38 hi hz0 hz1 hz2 rfl (by decide) (by decide) h.1 hB o m.length c (m.map Value.string) (by simp) (fun hne => by
    obtain ⟨b, off, e, -, -, hc⟩ := hm (fun e => hne (by rw [e]; rfl))
    refine ⟨b, off, e, fun j u hu => ?_⟩
    rw [List.getElem?_map, Option.map_eq_some_iff] at hu
    obtain ⟨t, ht, rfl⟩ := hu
    obtain ⟨cs, -, hcell, rfl, -⟩ := hc j t ht
    have := hcell 0 _ rfl
    rw [Nat.mul_one, Nat.add_zero] at this
    exact this) (fun u hu => by
    obtain ⟨t, -, rfl⟩ := List.mem_map.1 hu
    rfl) hn ty
  refine ⟨v', w', hr, ⟨?_, fun s hs => ?_, ?_⟩, hgr, hbk⟩
  · rw [List.length_append, List.map_append]
    exact hown
  · rcases List.mem_append.1 hs with hs | hs
    · exact h.2.1 s hs
    · obtain ⟨j, hj⟩ := List.mem_iff_getElem?.1 hs
      obtain ⟨b, off, e, -, -, hc⟩ := hm (fun e => by rw [e] at hs; cases hs)
      obtain ⟨cs, -, -, -, h9⟩ := hc j s hj
      exact h9
  · rw [List.length_append]
    unfold maxLen
    omega
theorem one_row {w : World} {b : Nat} {s : ByteArray} {e : TypeId} {fz : Nat × Nat} (h : w.heap[b]? = some (.cells #[.string s] e fz)) (hs : s.size ≤ maxLen) : RowOf (fun _ => True) w strR 1 (some ⟨b, 0, none⟩) [s] := by
  intro _
  refine ⟨b, 0, rfl, trivial, heap_lt h, fun i x hx => ?_⟩
  have hi : i = 0 := by
    have := (List.getElem?_eq_some_iff.1 hx).1
    simpa using this
  subst hi
  have hx2 : s = x := by simpa using hx
  subst hx2
  refine ⟨[.string s], rfl, fun j u hu => ?_, rfl, hs⟩
  have hj : j = 0 := by
    have := (List.getElem?_eq_some_iff.1 hu).1
    simpa using this
  subst hj
  rw [cell_of h]
  simpa using hu
theorem below_grown {w w' : World} {row : Option Nat} {B : Nat} (h : w.grownBy w' row) (hB : B ≤ w.heap.size) (hr : ∀ k, row = some k → B ≤ k) : Below B w w' :=
  ⟨h.os, h.tape, h.output, h.size, fun k hk => h.block k (by omega) fun e => by have := hr k e.symm; omega⟩

def hasS (l : List ByteArray) (s : ByteArray) : Bool := l.any fun t => t.toList == s.toList
theorem hasS_mem {l : List ByteArray} {s : ByteArray} : hasS l s = true ↔ s ∈ l := by
  unfold hasS
  rw [List.any_eq_true]
  constructor
  · rintro ⟨t, ht, h⟩
    have := (toList_beq t s).1 h
    exact this ▸ ht
  · exact fun h => ⟨s, h, by simp⟩
theorem hasS_yes (ss : List ByteArray) (s : ByteArray) (k : Nat) (h : k < ss.length) (hk : (ss[k].toList == s.toList) = true) : hasS ss s = true := by
  unfold hasS
  rw [List.any_eq_true]
  exact ⟨ss[k], List.getElem_mem h, hk⟩
theorem hasS_step (ss : List ByteArray) (s : ByteArray) (k : Nat) (h : k < ss.length) (h0 : hasS (ss.take k) s = false) (hk : (ss[k].toList == s.toList) = false) : hasS (ss.take (k + 1)) s = false := by
  unfold hasS at *
  rw [List.take_succ_eq_append_getElem h, List.any_append, h0]
  simpa using hk
set_option maxHeartbeats 400000 in
theorem has_any {K : Nat → Prop} (xs : List ByteArray) (o : Option Addr) (cap : Nat) (s : ByteArray) (w : World) (hl : xs.length ≤ maxLen) (hm : RowOf K w strR 1 o xs) :
    Calls Tryz.prog 61 #[.slice o xs.length cap, .string s] w fun e w' => e = .returned (.bool (hasS xs s)) ∧ w' = w := by
  have HM := hide hm
  have hl2 : xs.length ≤ 9223372036854775807 := hl
  clear hm hl
  go_enter Tryz.func61, Tryz.ntmps61
  go_wp2
  go_loop [5] (fun i => ∃ k : Nat, k ≤ xs.length ∧ i = .int .i64 k ∧ hasS (xs.take k) s = false) (fun i => xs.length - (intOf i).toNat)
  case atStart => exact ⟨0, Nat.zero_le _, rfl, rfl⟩
  case round =>
    obtain ⟨k, hk, rfl, hnone⟩ := hrel
    have HN := hide hnone
    clear hnone
    by_cases hlt : k < xs.length
    · have hne : xs ≠ [] := by intro e; rw [e] at hlt; simp at hlt
      obtain ⟨b, off, eo, -, -, hcs⟩ := HM.out hne
      subst eo
      obtain ⟨_, -, hkey, rfl, -⟩ := hcs k _ (List.getElem?_eq_getElem hlt)
      have q0 := hkey 0 _ rfl
      rw [Nat.mul_one, Nat.add_zero] at q0
      clear hcs hne hkey
      go_wp2
      · go_ret
        exact ⟨ret_bool (hasS_yes xs s k hlt (by assumption)).symm, rfl⟩
      · go_round
        case rel => exact ⟨k + 1, by omega, by go_num, hasS_step xs s k hlt HN.out (by assumption)⟩
        case measure => simp [intOf]; omega
    · go_wp2
      go_ret
      refine ⟨ret_bool ?_, rfl⟩
      have h := HN.out
      rw [List.take_of_length_le (by omega)] at h
      exact h.symm
end Go.Proofs.YtlaeenfeajkcfalGreat.Nm
namespace Go.Proofs.YtlaeenfeajkcfalGreat.Nm
open Go.ChangeShapes Go.WideShapes Go.ChangeAt Go.RowKit

theorem owns_set {w : World} {B : Nat} {e : TypeId} {g n c : Nat} {xs : List Value} (h : w.ownsRow B e 1 (.slice (some ⟨g, 0, none⟩) n c) n xs) (i : Nat) (u : Value) : (w.setCell ⟨g, i, none⟩ u).ownsRow B e 1 (.slice (some ⟨g, 0, none⟩) n c) n (xs.set i u) := by
  obtain ⟨hl, hc⟩ := h
  refine ⟨by rw [List.length_set]; exact hl, ?_⟩
  rcases hc with ⟨hv, -⟩ | ⟨g', cap, cur, hv, hb, hg, hn, hcap, hsz, htk⟩
  · cases hv
  · cases hv
    refine Or.inr ⟨g, c, cur.set! i u, rfl, hb, heap_set_same u hg, hn, hcap, by simpa using hsz, ?_⟩
    rw [← htk]
    simp [List.take_set]
theorem NRow.set {B : Nat} {w : World} {g n c : Nat} {l : List ByteArray} (h : NRow B w (.slice (some ⟨g, 0, none⟩) n c) l) (i : Nat) {t : ByteArray} (ht : t.size ≤ maxLen) : NRow B (w.setCell ⟨g, i, none⟩ (.string t)) (.slice (some ⟨g, 0, none⟩) n c) (l.set i t) := by
  obtain ⟨h1, h2, h3⟩ := h
  have hn : n = l.length := by
    rcases h1.2 with ⟨hv, -⟩ | ⟨g', cap, cur, hv, -⟩
    · cases hv
    · cases hv; rfl
  subst hn
  refine ⟨?_, fun s hs => ?_, by rw [List.length_set]; exact h3⟩
  · rw [List.length_set, List.map_set]
    exact owns_set h1 i _
  · rcases List.mem_or_eq_of_mem_set hs with hs | rfl
    · exact h2 s hs
    · exact ht
theorem NRow.some {B : Nat} {w : World} {v : Value} {l : List ByteArray} (h : NRow B w v l) (hne : l ≠ []) : ∃ g c, v = .slice (some ⟨g, 0, none⟩) l.length c ∧ l.length ≤ c ∧ B ≤ g ∧ g < w.heap.size ∧ (∀ (i : Nat) (s : ByteArray), l[i]? = some s → w.cell? ⟨g, i, none⟩ = some (.string s)) ∧ (∀ i, w.frozen? ⟨g, i, none⟩ = false) := by
  obtain ⟨⟨hl, hc⟩, hs, hm⟩ := h
  rcases hc with ⟨rfl, h0⟩ | ⟨g, cap, cur, rfl, hb, hg, hn, hcap, hsz, htk⟩
  · exact absurd (List.length_eq_zero_iff.1 h0) hne
  · refine ⟨g, cap, rfl, hn, hb, heap_lt hg, fun i s hi => ?_, fun i => frozen_of hg i⟩
    exact owns_cell hg htk i (by have := (List.getElem?_eq_some_iff.1 hi).1; omega) _ (by rw [List.getElem?_map, hi]; rfl)
theorem asc_put {l : List ByteArray} {s : ByteArray} {k : Nat} (h : Asc l) (hgt : ∀ x ∈ l.drop k, LtS s x) (hlt : ∀ x ∈ l.take k, LtS x s) : Asc (l.take k ++ s :: l.drop k) := by
  refine List.pairwise_append.2 ⟨h.sublist (List.take_sublist _ _), List.pairwise_cons.2 ⟨hgt, h.sublist (List.drop_sublist _ _)⟩, fun a ha b hb => ?_⟩
  rcases List.mem_cons.1 hb with rfl | hb
  · exact hlt a ha
  · exact ltS_trans (hlt a ha) (hgt b hb)
theorem take_lt {l : List ByteArray} {s : ByteArray} {k : Nat} (h : Asc l) (hk : k < l.length) (hx : LtS l[k] s) : ∀ x ∈ l.take (k + 1), LtS x s := by
  intro x hxm
  rw [List.take_succ_eq_append_getElem hk] at hxm
  rcases List.mem_append.1 hxm with h1 | h1
  · have h2 : Asc (l.take (k + 1)) := h.sublist (List.take_sublist _ _)
    rw [List.take_succ_eq_append_getElem hk] at h2
    exact ltS_trans ((List.pairwise_append.1 h2).2.2 x h1 _ (by simp)) hx
  · rw [List.mem_singleton] at h1
    rw [h1]
    exact hx
theorem mem_put {l : List ByteArray} {s : ByteArray} {k : Nat} (x : ByteArray) : x ∈ l.take k ++ s :: l.drop k ↔ x ∈ l ∨ x = s := by
  have h : x ∈ l ↔ x ∈ l.take k ∨ x ∈ l.drop k := by
    rw [← List.mem_append, List.take_append_drop]
  rw [h, List.mem_append, List.mem_cons]
  constructor
  · rintro (h | h | h)
    · exact .inl (.inl h)
    · exact .inr h
    · exact .inl (.inr h)
  · rintro ((h | h) | h)
    · exact .inl h
    · exact .inr (.inr h)
    · exact .inr (.inl h)
theorem shift_get {l : List ByteArray} {c : ByteArray} {k : Nat} (hk : k < l.length) : (l.take (k + 1) ++ c :: l.drop (k + 1))[k]? = some l[k] := by
  rw [List.getElem?_append_left (by rw [List.length_take]; omega), List.getElem?_take, if_pos (by omega), List.getElem?_eq_getElem hk]
theorem shift_set {l : List ByteArray} {c : ByteArray} {k : Nat} (hk : k < l.length) : (l.take (k + 1) ++ c :: l.drop (k + 1)).set (k + 1) l[k] = l.take k ++ l[k] :: l.drop k := by
  rw [List.set_append_right _ _ (by rw [List.length_take]; omega)]
  have e : k + 1 - (l.take (k + 1)).length = 0 := by rw [List.length_take]; omega
  rw [e, List.set_cons_zero, List.take_succ_eq_append_getElem hk, List.append_assoc, List.singleton_append]
  congr 2
  exact (List.drop_eq_getElem_cons hk).symm
theorem last_set {l : List ByteArray} {c s : ByteArray} {k : Nat} (hk : k ≤ l.length) : (l.take k ++ c :: l.drop k).set k s = l.take k ++ s :: l.drop k := by
  rw [List.set_append_right _ _ (by rw [List.length_take]; omega)]
  have e : k - (l.take k).length = 0 := by rw [List.length_take]; omega
  rw [e, List.set_cons_zero]
def PutP (l : List ByteArray) (s : ByteArray) (w : World) (e : Ending) (w' : World) : Prop := ∃ v l', e = .returned v ∧ NRow w.heap.size w' v l' ∧ Asc l' ∧ (∀ x, x ∈ l' ↔ x ∈ l ∨ (x = s ∧ s ≠ und)) ∧ l'.length ≤ l.length + 1 ∧ Below w.heap.size w w'

set_option maxHeartbeats 1000000 in
set_option maxRecDepth 100000 in
theorem put_any {K : Nat → Prop} (l : List ByteArray) (s : ByteArray) (o : Option Addr) (cap : Nat) (w : World) (hl : l.length ≤ 10000000) (hs : s.size ≤ maxLen) (hm : RowOf K w strR 1 o l) (ha : Asc l) :
    Calls Tryz.prog 59 #[.slice o l.length cap, .string s] w (PutP l s w) := by
  have HM := hide hm
  have HA := hide ha
  have HS := hide hs
  have hB0 : Below w.heap.size w (w.alloc (.cells #[] 9)) := (Below.refl _ w).alloc (Nat.le_refl _) _
  obtain ⟨v1, w1, hr1, hn1, hg1, hk1⟩ := (NRow.empty w).app (by simp) cap (hm.later hB0 fun _ _ h => h) (by simp only [List.length_nil]; omega) 38
  have HR1 := hide hr1
  rw [List.nil_append] at hn1
  have HN1 := hide hn1
  have hb1 : Below w.heap.size w w1 := hB0.trans (below_grown hg1 (by simp) fun k hk => by cases hk; exact Nat.le_refl _)
  have HB1 := hide hb1
  clear hm ha hs hB0 hr1 hg1 hk1
  by_cases hyes : hasS l s = true ∨ s.toList = [95]
  · have fin : PutP l s w (.returned v1) w1 := by
      refine ⟨v1, l, rfl, HN1.out, HA.out, fun x => ⟨.inl, fun h => ?_⟩, Nat.le_succ _, HB1.out⟩
      rcases h with h | ⟨rfl, hne⟩
      · exact h
      · rcases hyes with hy | hy
        · exact hasS_mem.1 hy
        · exact absurd (toList_inj (hy.trans und_list.symm)) hne
    have FIN := hide fin
    clear fin
    cases hh : hasS l s
    · have hu : (s.toList == [95]) = true := by
        rcases hyes with hy | hy
        · rw [hh] at hy; cases hy
        · rw [hy]; rfl
      have HH := hide hh
      clear hyes hh hn1 hb1
      go_enter Tryz.func59, Tryz.ntmps59
      go_wp2_with fail
      refine (has_any l o cap s w (by unfold maxLen; omega) HM.out).mono ?_
      rintro e w' ⟨rfl, hw⟩
      rw [HH.out, hw]
      clear hw
      go_wp2_with (at_builtin; refine Lib.wpList_append_run _ rfl _ _ _ _ rfl _ _ rfl rfl _ _ HR1.out ?_)
      go_ret
      exact FIN.out
    · have HH := hide hh
      clear hyes hh hn1 hb1
      go_enter Tryz.func59, Tryz.ntmps59
      go_wp2_with fail
      refine (has_any l o cap s w (by unfold maxLen; omega) HM.out).mono ?_
      rintro e w' ⟨rfl, hw⟩
      rw [HH.out, hw]
      clear hw
      go_wp2_with (at_builtin; refine Lib.wpList_append_run _ rfl _ _ _ _ rfl _ _ rfl rfl _ _ HR1.out ?_)
      go_ret
      exact FIN.out
  · have hh : hasS l s = false := by
      cases h : hasS l s
      · rfl
      · exact absurd (.inl h) hyes
    have hu : (s.toList == [95]) = false := by
      cases h : (s.toList == [95])
      · rfl
      · exact absurd (.inr (eq_of_beq h)) hyes
    have HNE : Hid (s ∉ l ∧ s ≠ und) := ⟨fun h => (by rw [hasS_mem.2 h] at hh; cases hh), fun h => hyes (.inr (by rw [h]; exact und_list))⟩
    have HH := hide hh
    have hB2 : Below w1.heap.size w1 (w1.alloc (.cells #[.string s] 9)) := (Below.refl _ w1).alloc (Nat.le_refl _) _
    obtain ⟨v2, w2, hr2, hn2, hg2, hk2⟩ := (hn1.later hB2).app (Nat.le_trans hb1.size hB2.size) 1 (one_row (heap_alloc_new w1 (.cells #[.string s] 9)) HS.out) (by simp only [List.length_singleton]; omega) 38
    rw [List.length_singleton] at hr2
    obtain ⟨g, c, rfl, hgc, hgB, hglt, hgcell, hgfz⟩ := hn2.some (by simp)
    have HR2 := hide hr2
    have HN2 := hide hn2
    have HB2 : Hid (Below w.heap.size w w2) := hb1.trans ((hB2.mono hb1.size).trans (below_grown hg2 (Nat.le_trans hb1.size hB2.size) fun k hk => ((hn1.later hB2).lt k hk).2))
    have hlen : (l ++ [s]).length = l.length + 1 := by simp
    rw [hlen] at HR2 HN2
    have hgB2 := hgB
    clear hyes hh hB2 hr2 hn2 hg2 hk2 hgc hgcell hgfz hn1 hb1 hlen hgB2
    go_enter Tryz.func59, Tryz.ntmps59
    go_wp2_with fail
    refine (has_any l o cap s w (by unfold maxLen; omega) HM.out).mono ?_
    rintro e w' ⟨rfl, hw⟩
    rw [HH.out, hw]
    clear hw
    go_wp2_with (at_builtin; first | refine Lib.wpList_append_run _ rfl _ _ _ _ rfl _ _ rfl rfl _ _ HR1.out ?_ | refine Lib.wpList_append_run _ rfl _ _ _ _ rfl _ _ rfl rfl _ _ HR2.out ?_)
    go_loopw [6] (fun t6 wr => ∃ (k : Nat) (d : ByteArray), k ≤ l.length ∧ t6 = .int .i64 k ∧ NRow w.heap.size wr (.slice (some ⟨g, 0, none⟩) (l.length + 1) c) (l.take k ++ d :: l.drop k) ∧ (∀ x ∈ l.drop k, LtS s x) ∧ Below w.heap.size w wr) (fun t6 _ => (intOf t6).toNat)
    case atStart =>
      refine ⟨l.length, s, Nat.le_refl _, by go_num, ?_, fun x hx => (by rw [List.drop_length] at hx; cases hx), HB2.out⟩
      rw [List.take_length, List.drop_length]
      exact HN2.out
    case round =>
      obtain ⟨k, d, hk, rfl, hnr, hgt, hbr⟩ := hrel
      have HN := hide hnr
      have HGT := hide hgt
      have HBR := hide hbr
      obtain ⟨g', c', hv, -, -, -, hcell, hfz⟩ := hnr.some (by simp)
      have hlen2 : (l.take k ++ d :: l.drop k).length = l.length + 1 := by
        rw [List.length_append, List.length_cons, List.length_take, List.length_drop]
        omega
      rw [hlen2] at hv
      cases hv
      have hfin : ∀ (W : World), W = wr.setCell ⟨g, k, none⟩ (.string s) → (∀ x ∈ l.take k, LtS x s) → PutP l s w (.returned (.slice (some ⟨g, 0, none⟩) (l.length + 1) c)) W := by
        intro W hW hlt
        subst hW
        have h9 := hnr.set k HS.out
        rw [last_set hk] at h9
        refine ⟨_, _, rfl, h9, asc_put HA.out hgt hlt, fun x => ?_, ?_, hbr.setCell hgB _⟩
        · rw [mem_put]
          exact ⟨fun h => h.imp id fun e => ⟨e, HNE.out.2⟩, fun h => h.imp id fun e => e.1⟩
        · rw [List.length_append, List.length_cons, List.length_take, List.length_drop]
          omega
      have HFIN := hide hfin
      have ck := hcell k d (by rw [List.getElem?_append_right (by rw [List.length_take]; omega), List.length_take, show k - min k l.length = 0 by omega]; rfl)
      have fk := hfz k
      clear hgt hbr hfin hlen2
      cases k with
      | zero =>
        clear hnr hcell hfz
        go_wp2
        go_ret
        exact HFIN.out _ rfl (fun x hx => by simp at hx)
      | succ j =>
        have hj : j < l.length := by omega
        have cj := hcell j _ (shift_get hj)
        have fj := hfz j
        cases ht : (Op.bytesLess l[j].toList s.toList || l[j].toList == s.toList)
        · have hlt : LtS s l[j] := by
            rw [Bool.or_eq_false_iff, less_eq, decide_eq_false_iff_not] at ht
            exact ltS_total ht.1 fun e => by rw [e] at ht; simp at ht
          have HLT := hide hlt
          clear hnr hcell hfz hlt
          go_wp2
          go_roundw
          case rel =>
            refine ⟨j, l[j], by omega, by go_num, ?_, fun x hx => ?_, HBR.out.setCell hgB _⟩
            · have h9 := HN.out.set (j + 1) (HN.out.2.1 l[j] (List.mem_of_getElem? (shift_get hj)))
              rw [shift_set hj] at h9
              exact h9
            · rw [List.drop_eq_getElem_cons hj] at hx
              rcases List.mem_cons.1 hx with rfl | hx
              · exact HLT.out
              · exact HGT.out x hx
          case measure => simp [intOf]
        · have hle : LtS l[j] s := by
            rw [Bool.or_eq_true, less_eq, decide_eq_true_eq] at ht
            rcases ht with ht | ht
            · exact ht
            · have e := (toList_beq _ _).1 ht
              exact absurd (e ▸ List.getElem_mem hj) HNE.out.1
          have HLE := hide hle
          clear hnr hcell hfz hle
          go_wp2
          go_ret
          exact HFIN.out _ rfl (take_lt HA.out hj HLE.out)

def JoinP (a b : List ByteArray) (w : World) (e : Ending) (w' : World) : Prop := ∃ v l', e = .returned v ∧ NRow w.heap.size w' v l' ∧ Asc l' ∧ (∀ x, x ∈ l' ↔ x ∈ a ∨ (x ∈ b ∧ x ≠ und)) ∧ l'.length ≤ a.length + b.length ∧ Below w.heap.size w w'
set_option maxHeartbeats 1000000 in
set_option maxRecDepth 100000 in
theorem join_any {K K' : Nat → Prop} (a b : List ByteArray) (oa ob : Option Addr) (ca cb : Nat) (w : World) (hl : a.length + b.length ≤ 10000000) (hma : RowOf K w strR 1 oa a) (hmb : RowOf K' w strR 1 ob b) (ha : Asc a) :
    Calls Tryz.prog 29 #[.slice oa a.length ca, .slice ob b.length cb] w (JoinP a b w) := by
  have HM := hide hmb
  have HA := hide ha
  have hB0 : Below w.heap.size w (w.alloc (.cells #[] 9)) := (Below.refl _ w).alloc (Nat.le_refl _) _
  obtain ⟨v1, w1, hr1, hn1, hg1, hk1⟩ := (NRow.empty w).app (by simp) ca (hma.later hB0 fun _ _ h => h) (by simp only [List.length_nil]; omega) 38
  have HR1 := hide hr1
  rw [List.nil_append] at hn1
  have HN1 := hide hn1
  have HB1 : Hid (Below w.heap.size w w1) := hB0.trans (below_grown hg1 (by simp) fun k hk => by cases hk; exact Nat.le_refl _)
  clear hma hmb ha hB0 hr1 hg1 hk1 hn1
  go_enter Tryz.func29, Tryz.ntmps29
  go_wp2_with (at_builtin; refine Lib.wpList_append_run _ rfl _ _ _ _ rfl _ _ rfl rfl _ _ HR1.out ?_)
  go_loopw [5, 6] (fun t5 t6 wr => ∃ (i : Nat) (l : List ByteArray), i ≤ b.length ∧ t6 = .int .i64 i ∧ NRow w.heap.size wr t5 l ∧ Asc l ∧ (∀ x, x ∈ l ↔ x ∈ a ∨ (x ∈ b.take i ∧ x ≠ und)) ∧ l.length ≤ a.length + i ∧ Below w.heap.size w wr) (fun _ t6 _ => b.length - (intOf t6).toNat)
  case atStart => exact ⟨0, a, Nat.zero_le _, rfl, HN1.out, HA.out, fun x => by simp, Nat.le_refl _, HB1.out⟩
  case round =>
    obtain ⟨i, l, hi, rfl, hn, hasc, hmem, hlen, hb⟩ := hrel
    have HN := hide hn
    have HASC := hide hasc
    have HMEM := hide hmem
    have HB := hide hb
    by_cases hlt : i < b.length
    · have hne : b ≠ [] := by intro e; rw [e] at hlt; simp at hlt
      have hrow := HM.out.later hb (R' := strR) fun _ _ h => h
      obtain ⟨bb, off, eo, -, -, hcs⟩ := hrow hne
      subst eo
      obtain ⟨_, -, hkey, rfl, hsz⟩ := hcs i _ (List.getElem?_eq_getElem hlt)
      have q0 := hkey 0 _ rfl
      rw [Nat.mul_one, Nat.add_zero] at q0
      obtain ⟨o5, c5, rfl, hf5, hr5⟩ := hn.rowOf
      have HR5 := hide hr5
      have HSZ := hide hsz
      clear hn hasc hmem hb hrow hcs hne hkey hr5 hf5 hsz
      go_wp2_with fail
      refine (put_any l _ o5 c5 wr (by omega) HSZ.out HR5.out HASC.out).mono ?_
      rintro e w2 ⟨v2, l2, rfl, hn2, hasc2, hmem2, hlen2, hb2⟩
      have HN2 := hide (hn2.base HB.out.size)
      have HASC2 := hide hasc2
      have HMEM2 := hide hmem2
      have HB2 := hide (HB.out.trans (hb2.mono HB.out.size))
      clear hn2 hasc2 hmem2 hb2
      go_wp2
      go_roundw
      case rel =>
        refine ⟨i + 1, l2, by omega, by go_num, HN2.out, HASC2.out, fun x => ?_, by omega, HB2.out⟩
        rw [HMEM2.out, HMEM.out, List.take_succ_eq_append_getElem hlt, List.mem_append, List.mem_singleton]
        constructor
        · rintro ((h | ⟨h1, h2⟩) | ⟨h1, h2⟩)
          · exact .inl h
          · exact .inr ⟨.inl h1, h2⟩
          · exact .inr ⟨.inr h1, h1 ▸ h2⟩
        · rintro (h | ⟨h1 | h1, h2⟩)
          · exact .inl (.inl h)
          · exact .inl (.inr ⟨h1, h2⟩)
          · exact .inr ⟨h1, h1 ▸ h2⟩
      case measure => simp [intOf]; omega
    · have hie : i = b.length := by omega
      subst hie
      clear hn hasc hmem hb
      go_wp2
      go_ret
      refine ⟨_, l, rfl, HN.out, HASC.out, fun x => ?_, hlen, HB.out⟩
      have h9 := HMEM.out x
      rw [List.take_length] at h9
      exact h9
end Go.Proofs.YtlaeenfeajkcfalGreat.Nm
namespace Go.Proofs.YtlaeenfeajkcfalGreat
open Go.ChangeShapes Go.WideShapes Go.ChangeAt Go.RowKit

def lw (f : Tr → Nat) (xs : List Tr) : Nat := xs.length + (xs.map f).sum
def sw (ss : List ByteArray) : Nat := ss.length + (ss.map ByteArray.size).sum
structure Wts where
  ex : Tr → Nat
  de : Tr → Nat
  al : Tr → Nat
/-- What the measure counts, up to a height. -/
def wts : Nat → Wts
  | 0 => ⟨fun _ => 0, fun _ => 0, fun _ => 0⟩
  | h + 1 => ⟨fun e => e.s.size + lw (wts h).ex e.l + lw (wts h).de e.ds + lw (wts h).al e.al, fun d => d.s.size + sw d.ss + (d.l.map (wts h).ex).sum + lw (wts h).de d.ds, fun a => a.s.size + sw a.ss + (a.l.map (wts h).ex).sum⟩

set_option maxHeartbeats 2000000 in
set_option maxRecDepth 100000 in
theorem szStringS_any {K : Nat → Prop} (ss : List ByteArray) (o : Option Addr) (cap : Nat) (w : World) (z : Int) (hz0 : 0 ≤ z) (hz : z ≤ 1048576) (hl : ss.length ≤ maxLen) (hm : RowOf K w strR 1 o ss) :
    Calls Tryz.prog 48 #[.slice o ss.length cap, .int .i64 z] w fun e w' => ∃ r : Int, e = .returned (.int .i64 r) ∧ r ≤ z ∧ (0 ≤ r → ((sw ss : Nat) : Int) ≤ z - r) ∧ Below w.heap.size w w' := by
  have HM := hide hm
  have hl2 : ss.length ≤ 9223372036854775807 := hl
  clear hm hl
  by_cases hbig : z - ss.length < 0
  · go_enter Tryz.func48, Tryz.ntmps48
    go_wp2
    go_ret
    exact ⟨-1, rfl, by omega, fun h => by omega, Below.refl _ _⟩
  go_enter Tryz.func48, Tryz.ntmps48
  go_wp2
  go_loopw [1, 5] (fun t1 t5 wr => ∃ (i : Nat) (y : Int), i ≤ ss.length ∧ t5 = .int .i64 i ∧ t1 = .int .i64 y ∧ 0 ≤ y ∧ y ≤ z ∧ ((ss.length + ((ss.take i).map ByteArray.size).sum : Nat) : Int) ≤ z - y ∧ wr = w) (fun _ t5 _ => ss.length - (intOf t5).toNat)
  case atStart => exact ⟨0, z - ss.length, Nat.zero_le _, rfl, rfl, by omega, by omega, by simp; omega, rfl⟩
  case round =>
    obtain ⟨i, y, hi, rfl, rfl, hy0, hy1, hsum, rfl⟩ := hrel
    have HSUM := hide hsum
    clear hsum
    by_cases hlt : i < ss.length
    · have hne : ss ≠ [] := by intro e; rw [e] at hlt; simp at hlt
      obtain ⟨x, hx⟩ : ∃ x, ss[i]? = some x := ⟨ss[i], List.getElem?_eq_getElem hlt⟩
      obtain ⟨b, off, eo, -, hbl, hcs⟩ := HM.out hne
      subst eo
      obtain ⟨cs, hlen, hkey, hcx, hxs⟩ := hcs i x hx
      subst hcx
      have q0 := hkey 0 _ rfl
      rw [Nat.mul_one, Nat.add_zero] at q0
      have hxs2 : x.size ≤ 9223372036854775807 := hxs
      have HX := hide hx
      clear hcs hx hne hkey hlen hxs
      have hlt2 : (i : Int) < ss.length := by omega
      by_cases hr : y - x.size < 0
      · go_wp2
        go_ret
        exact ⟨-1, rfl, by omega, fun h => by omega, Below.refl _ _⟩
      · go_wp2
        refine ⟨⟨i + 1, y - x.size, by omega, by go_num, by first | rfl | go_num, by omega, by omega, ?_, by trivial⟩, by simp [intOf]; omega⟩
        rw [List.take_add_one, HX.out, List.map_append, List.sum_append]
        have h1 := HSUM.out
        simp only [Option.toList_some, List.map_cons, List.map_nil, List.sum_cons, List.sum_nil]
        omega
    · go_wp2
      go_ret
      refine ⟨y, rfl, by omega, fun _ => ?_, Below.refl _ _⟩
      have h := HSUM.out
      rw [List.take_of_length_le (by omega)] at h
      exact h

set_option maxHeartbeats 2000000 in
set_option maxRecDepth 100000 in
theorem szExpS_of {K : Nat → Prop} {h : Nat} (hE : ∀ (x : Tr) (cs : List Value) (w : World) (z : Int), 0 ≤ z → z ≤ 1048576 → (reads K w h).ex x cs → Calls Tryz.prog 49 #[.agg cs.toArray, .int .i64 z] w fun e w' => ∃ r : Int, e = .returned (.int .i64 r) ∧ r ≤ z ∧ (0 ≤ r → ((wts h).ex x : Int) ≤ z - r) ∧ Below w.heap.size w w')
    (xs : List Tr) (o : Option Addr) (cap : Nat) (w : World) (z : Int) (hz0 : 0 ≤ z) (hz : z ≤ 1048576) (hl : xs.length ≤ maxLen) (hm : RowOf K w (reads K w h).ex 6 o xs) :
    Calls Tryz.prog 79 #[.slice o xs.length cap, .int .i64 z] w fun e w' => ∃ r : Int, e = .returned (.int .i64 r) ∧ r ≤ z ∧ (0 ≤ r → ((lw (wts h).ex xs : Nat) : Int) ≤ z - r) ∧ Below w.heap.size w w' := by
  have HM := hide hm
  have HE := hide hE
  have hl2 : xs.length ≤ 9223372036854775807 := hl
  clear hm hE hl
  by_cases hbig : z - xs.length < 0
  · go_enter Tryz.func79, Tryz.ntmps79
    go_wp2
    go_ret
    exact ⟨-1, rfl, by omega, fun h => by omega, Below.refl _ _⟩
  go_enter Tryz.func79, Tryz.ntmps79
  go_wp2
  go_loopw [1, 5] (fun t1 t5 wr => ∃ (i : Nat) (y : Int), i ≤ xs.length ∧ t5 = .int .i64 i ∧ t1 = .int .i64 y ∧ 0 ≤ y ∧ y ≤ z ∧ ((xs.length + ((xs.take i).map (wts h).ex).sum : Nat) : Int) ≤ z - y ∧ Below w.heap.size w wr) (fun _ t5 _ => xs.length - (intOf t5).toNat)
  case atStart => exact ⟨0, z - xs.length, Nat.zero_le _, rfl, rfl, by omega, by omega, by simp; omega, Below.refl _ _⟩
  case round =>
    obtain ⟨i, y, hi, rfl, rfl, hy0, hy1, hsum, hbw⟩ := hrel
    have HSUM := hide hsum
    have HBW := hide hbw
    clear hsum hbw
    by_cases hlt : i < xs.length
    · have hne : xs ≠ [] := by intro e; rw [e] at hlt; simp at hlt
      obtain ⟨x, hx⟩ : ∃ x, xs[i]? = some x := ⟨xs[i], List.getElem?_eq_getElem hlt⟩
      obtain ⟨b, off, eo, -, hbl, hcs⟩ := (HM.out.later HBW.out fun _ _ h => h) hne
      subst eo
      obtain ⟨cs, hlen, hkey, hrd⟩ := hcs i x hx
      obtain ⟨v0, v1, v2, v3, v4, v5, rfl⟩ := six hlen
      have q0 := hkey 0 v0 rfl
      have q1 := hkey 1 v1 rfl
      have q2 := hkey 2 v2 rfl
      have q3 := hkey 3 v3 rfl
      have q4 := hkey 4 v4 rfl
      have q5 := hkey 5 v5 rfl
      rw [Nat.add_zero] at q0
      have HX := hide hx
      have HRD := hide ((reads_later HBW.out h).1 x _ hrd)
      clear hcs hx hne hkey hlen hrd
      have hlt2 : (i : Int) < xs.length := by omega
      go_wp2_with fail
      refine (HE.out x _ _ y hy0 (by omega) HRD.out).mono ?_
      rintro e w1 ⟨r, rfl, hr1, hr2, hb1⟩
      have HR2 := hide hr2
      have HB1 := hide hb1
      clear hr2 hb1
      by_cases hr : r < 0
      · go_wp2
        go_ret
        exact ⟨-1, rfl, by omega, fun h => by omega, HBW.out.trans (HB1.out.mono HBW.out.size)⟩
      · go_wp2
        refine ⟨⟨i + 1, r, by omega, by go_num, rfl, by omega, by omega, ?_, HBW.out.trans (HB1.out.mono HBW.out.size)⟩, by simp [intOf]; omega⟩
        rw [List.take_add_one, HX.out, List.map_append, List.sum_append]
        have h1 := HSUM.out
        have h2 := HR2.out (by omega)
        simp only [Option.toList_some, List.map_cons, List.map_nil, List.sum_cons, List.sum_nil]
        omega
    · go_wp2
      go_ret
      refine ⟨y, rfl, by omega, fun _ => ?_, HBW.out⟩
      have h := HSUM.out
      rw [List.take_of_length_le (by omega)] at h
      exact h

set_option maxHeartbeats 2000000 in
set_option maxRecDepth 100000 in
theorem szDecS_of {K : Nat → Prop} {h : Nat} (hE : ∀ (x : Tr) (cs : List Value) (w : World) (z : Int), 0 ≤ z → z ≤ 1048576 → (reads K w h).de x cs → Calls Tryz.prog 25 #[.agg cs.toArray, .int .i64 z] w fun e w' => ∃ r : Int, e = .returned (.int .i64 r) ∧ r ≤ z ∧ (0 ≤ r → ((wts h).de x : Int) ≤ z - r) ∧ Below w.heap.size w w')
    (xs : List Tr) (o : Option Addr) (cap : Nat) (w : World) (z : Int) (hz0 : 0 ≤ z) (hz : z ≤ 1048576) (hl : xs.length ≤ maxLen) (hm : RowOf K w (reads K w h).de 9 o xs) :
    Calls Tryz.prog 10 #[.slice o xs.length cap, .int .i64 z] w fun e w' => ∃ r : Int, e = .returned (.int .i64 r) ∧ r ≤ z ∧ (0 ≤ r → ((lw (wts h).de xs : Nat) : Int) ≤ z - r) ∧ Below w.heap.size w w' := by
  have HM := hide hm
  have HE := hide hE
  have hl2 : xs.length ≤ 9223372036854775807 := hl
  clear hm hE hl
  by_cases hbig : z - xs.length < 0
  · go_enter Tryz.func10, Tryz.ntmps10
    go_wp2
    go_ret
    exact ⟨-1, rfl, by omega, fun h => by omega, Below.refl _ _⟩
  go_enter Tryz.func10, Tryz.ntmps10
  go_wp2
  go_loopw [1, 5] (fun t1 t5 wr => ∃ (i : Nat) (y : Int), i ≤ xs.length ∧ t5 = .int .i64 i ∧ t1 = .int .i64 y ∧ 0 ≤ y ∧ y ≤ z ∧ ((xs.length + ((xs.take i).map (wts h).de).sum : Nat) : Int) ≤ z - y ∧ Below w.heap.size w wr) (fun _ t5 _ => xs.length - (intOf t5).toNat)
  case atStart => exact ⟨0, z - xs.length, Nat.zero_le _, rfl, rfl, by omega, by omega, by simp; omega, Below.refl _ _⟩
  case round =>
    obtain ⟨i, y, hi, rfl, rfl, hy0, hy1, hsum, hbw⟩ := hrel
    have HSUM := hide hsum
    have HBW := hide hbw
    clear hsum hbw
    by_cases hlt : i < xs.length
    · have hne : xs ≠ [] := by intro e; rw [e] at hlt; simp at hlt
      obtain ⟨x, hx⟩ : ∃ x, xs[i]? = some x := ⟨xs[i], List.getElem?_eq_getElem hlt⟩
      obtain ⟨b, off, eo, -, hbl, hcs⟩ := (HM.out.later HBW.out fun _ _ h => h) hne
      subst eo
      obtain ⟨cs, hlen, hkey, hrd⟩ := hcs i x hx
      obtain ⟨v0, v1, v2, v3, v4, v5, v6, v7, v8, rfl⟩ := nine hlen
      have q0 := hkey 0 v0 rfl
      have q1 := hkey 1 v1 rfl
      have q2 := hkey 2 v2 rfl
      have q3 := hkey 3 v3 rfl
      have q4 := hkey 4 v4 rfl
      have q5 := hkey 5 v5 rfl
      have q6 := hkey 6 v6 rfl
      have q7 := hkey 7 v7 rfl
      have q8 := hkey 8 v8 rfl
      rw [Nat.add_zero] at q0
      have HX := hide hx
      have HRD := hide ((reads_later HBW.out h).2.1 x _ hrd)
      clear hcs hx hne hkey hlen hrd
      have hlt2 : (i : Int) < xs.length := by omega
      go_wp2_with fail
      refine (HE.out x _ _ y hy0 (by omega) HRD.out).mono ?_
      rintro e w1 ⟨r, rfl, hr1, hr2, hb1⟩
      have HR2 := hide hr2
      have HB1 := hide hb1
      clear hr2 hb1
      by_cases hr : r < 0
      · go_wp2
        go_ret
        exact ⟨-1, rfl, by omega, fun h => by omega, HBW.out.trans (HB1.out.mono HBW.out.size)⟩
      · go_wp2
        refine ⟨⟨i + 1, r, by omega, by go_num, rfl, by omega, by omega, ?_, HBW.out.trans (HB1.out.mono HBW.out.size)⟩, by simp [intOf]; omega⟩
        rw [List.take_add_one, HX.out, List.map_append, List.sum_append]
        have h1 := HSUM.out
        have h2 := HR2.out (by omega)
        simp only [Option.toList_some, List.map_cons, List.map_nil, List.sum_cons, List.sum_nil]
        omega
    · go_wp2
      go_ret
      refine ⟨y, rfl, by omega, fun _ => ?_, HBW.out⟩
      have h := HSUM.out
      rw [List.take_of_length_le (by omega)] at h
      exact h

set_option maxHeartbeats 2000000 in
set_option maxRecDepth 100000 in
theorem szAltS_of {K : Nat → Prop} {h : Nat} (hE : ∀ (x : Tr) (cs : List Value) (w : World) (z : Int), 0 ≤ z → z ≤ 1048576 → (reads K w h).al x cs → Calls Tryz.prog 106 #[.agg cs.toArray, .int .i64 z] w fun e w' => ∃ r : Int, e = .returned (.int .i64 r) ∧ r ≤ z ∧ (0 ≤ r → ((wts h).al x : Int) ≤ z - r) ∧ Below w.heap.size w w')
    (xs : List Tr) (o : Option Addr) (cap : Nat) (w : World) (z : Int) (hz0 : 0 ≤ z) (hz : z ≤ 1048576) (hl : xs.length ≤ maxLen) (hm : RowOf K w (reads K w h).al 8 o xs) :
    Calls Tryz.prog 80 #[.slice o xs.length cap, .int .i64 z] w fun e w' => ∃ r : Int, e = .returned (.int .i64 r) ∧ r ≤ z ∧ (0 ≤ r → ((lw (wts h).al xs : Nat) : Int) ≤ z - r) ∧ Below w.heap.size w w' := by
  have HM := hide hm
  have HE := hide hE
  have hl2 : xs.length ≤ 9223372036854775807 := hl
  clear hm hE hl
  by_cases hbig : z - xs.length < 0
  · go_enter Tryz.func80, Tryz.ntmps80
    go_wp2
    go_ret
    exact ⟨-1, rfl, by omega, fun h => by omega, Below.refl _ _⟩
  go_enter Tryz.func80, Tryz.ntmps80
  go_wp2
  go_loopw [1, 5] (fun t1 t5 wr => ∃ (i : Nat) (y : Int), i ≤ xs.length ∧ t5 = .int .i64 i ∧ t1 = .int .i64 y ∧ 0 ≤ y ∧ y ≤ z ∧ ((xs.length + ((xs.take i).map (wts h).al).sum : Nat) : Int) ≤ z - y ∧ Below w.heap.size w wr) (fun _ t5 _ => xs.length - (intOf t5).toNat)
  case atStart => exact ⟨0, z - xs.length, Nat.zero_le _, rfl, rfl, by omega, by omega, by simp; omega, Below.refl _ _⟩
  case round =>
    obtain ⟨i, y, hi, rfl, rfl, hy0, hy1, hsum, hbw⟩ := hrel
    have HSUM := hide hsum
    have HBW := hide hbw
    clear hsum hbw
    by_cases hlt : i < xs.length
    · have hne : xs ≠ [] := by intro e; rw [e] at hlt; simp at hlt
      obtain ⟨x, hx⟩ : ∃ x, xs[i]? = some x := ⟨xs[i], List.getElem?_eq_getElem hlt⟩
      obtain ⟨b, off, eo, -, hbl, hcs⟩ := (HM.out.later HBW.out fun _ _ h => h) hne
      subst eo
      obtain ⟨cs, hlen, hkey, hrd⟩ := hcs i x hx
      obtain ⟨v0, v1, v2, v3, v4, v5, v6, v7, rfl⟩ := eight hlen
      have q0 := hkey 0 v0 rfl
      have q1 := hkey 1 v1 rfl
      have q2 := hkey 2 v2 rfl
      have q3 := hkey 3 v3 rfl
      have q4 := hkey 4 v4 rfl
      have q5 := hkey 5 v5 rfl
      have q6 := hkey 6 v6 rfl
      have q7 := hkey 7 v7 rfl
      rw [Nat.add_zero] at q0
      have HX := hide hx
      have HRD := hide ((reads_later HBW.out h).2.2 x _ hrd)
      clear hcs hx hne hkey hlen hrd
      have hlt2 : (i : Int) < xs.length := by omega
      go_wp2_with fail
      refine (HE.out x _ _ y hy0 (by omega) HRD.out).mono ?_
      rintro e w1 ⟨r, rfl, hr1, hr2, hb1⟩
      have HR2 := hide hr2
      have HB1 := hide hb1
      clear hr2 hb1
      by_cases hr : r < 0
      · go_wp2
        go_ret
        exact ⟨-1, rfl, by omega, fun h => by omega, HBW.out.trans (HB1.out.mono HBW.out.size)⟩
      · go_wp2
        refine ⟨⟨i + 1, r, by omega, by go_num, rfl, by omega, by omega, ?_, HBW.out.trans (HB1.out.mono HBW.out.size)⟩, by simp [intOf]; omega⟩
        rw [List.take_add_one, HX.out, List.map_append, List.sum_append]
        have h1 := HSUM.out
        have h2 := HR2.out (by omega)
        simp only [Option.toList_some, List.map_cons, List.map_nil, List.sum_cons, List.sum_nil]
        omega
    · go_wp2
      go_ret
      refine ⟨y, rfl, by omega, fun _ => ?_, HBW.out⟩
      have h := HSUM.out
      rw [List.take_of_length_le (by omega)] at h
      exact h
end Go.Proofs.YtlaeenfeajkcfalGreat
namespace Go.Proofs.YtlaeenfeajkcfalGreat
open Go.ChangeShapes Go.WideShapes Go.ChangeAt Go.RowKit

def SzEx (K : Nat → Prop) (h : Nat) : Prop := ∀ (x : Tr) (cs : List Value) (w : World) (z : Int), 0 ≤ z → z ≤ 1048576 → (reads K w h).ex x cs → Calls Tryz.prog 49 #[.agg cs.toArray, .int .i64 z] w fun e w' => ∃ r : Int, e = .returned (.int .i64 r) ∧ r ≤ z ∧ (0 ≤ r → ((wts h).ex x : Int) ≤ z - r) ∧ Below w.heap.size w w'
def SzDe (K : Nat → Prop) (h : Nat) : Prop := ∀ (x : Tr) (cs : List Value) (w : World) (z : Int), 0 ≤ z → z ≤ 1048576 → (reads K w h).de x cs → Calls Tryz.prog 25 #[.agg cs.toArray, .int .i64 z] w fun e w' => ∃ r : Int, e = .returned (.int .i64 r) ∧ r ≤ z ∧ (0 ≤ r → ((wts h).de x : Int) ≤ z - r) ∧ Below w.heap.size w w'
def SzAl (K : Nat → Prop) (h : Nat) : Prop := ∀ (x : Tr) (cs : List Value) (w : World) (z : Int), 0 ≤ z → z ≤ 1048576 → (reads K w h).al x cs → Calls Tryz.prog 106 #[.agg cs.toArray, .int .i64 z] w fun e w' => ∃ r : Int, e = .returned (.int .i64 r) ∧ r ≤ z ∧ (0 ≤ r → ((wts h).al x : Int) ≤ z - r) ∧ Below w.heap.size w w'

set_option maxHeartbeats 4000000 in
set_option maxRecDepth 100000 in
theorem szExp_step {K : Nat → Prop} {h : Nat} (i1 : SzEx K h) (i2 : SzDe K h) (i3 : SzAl K h) : SzEx K (h + 1) := by
  intro x cs w z hz0 hz hrd
  obtain ⟨-, o1, c1, o2, c2, o3, c3, rfl, hs, hl, hd, ha, q1, q2, q3⟩ := hrd
  have hs2 : x.s.size ≤ 9223372036854775807 := hs
  have I1 := hide i1
  have I2 := hide i2
  have I3 := hide i3
  have Q1 := hide q1
  have Q2 := hide q2
  have Q3 := hide q3
  clear i1 i2 i3 q1 q2 q3 hs
  have HX0 : Hid ((w.alloc (.cells #[.int .i64 x.k, .string x.s, .int .i64 x.n, .slice o1 x.l.length c1, .slice o2 x.ds.length c2, .slice o3 x.al.length c3] 66)).heap[w.heap.size]? = some (.cells #[.int .i64 x.k, .string x.s, .int .i64 x.n, .slice o1 x.l.length c1, .slice o2 x.ds.length c2, .slice o3 x.al.length c3] 66 (0, 0))) := heap_alloc_new w _
  have HB0 : Hid (Below w.heap.size w (w.alloc (.cells #[.int .i64 x.k, .string x.s, .int .i64 x.n, .slice o1 x.l.length c1, .slice o2 x.ds.length c2, .slice o3 x.al.length c3] 66))) := (Below.refl _ w).alloc (Nat.le_refl _) _
  by_cases hn0 : z - x.s.size < 0
  · go_enter Tryz.func49, Tryz.ntmps49
    go_wp2
    go_ret
    exact ⟨-1, rfl, by omega, fun h => by omega, HB0.out⟩
  go_enter Tryz.func49, Tryz.ntmps49
  go_wp2_with fail
  refine (szExpS_of I1.out x.l o1 c1 _ (z - x.s.size) (by omega) (by omega) hl.1 (Q1.out.later HB0.out (reads_later HB0.out h).1)).mono ?_
  rintro e w1 ⟨r1, rfl, hr1, hs1, hb⟩
  have HR1 := hide hs1
  have HB1 := hide (HB0.out.trans (hb.mono HB0.out.size))
  have HX1 := hide ((hb.block w.heap.size (heap_lt HX0.out)).trans HX0.out)
  clear hs1 hb
  by_cases hneg1 : r1 < 0
  · go_wp2
    go_ret
    exact ⟨-1, rfl, by omega, fun h => by omega, HB1.out⟩
  have b4_1 := cell_of HX1.out 4
  have b5_1 := cell_of HX1.out 5
  simp only [List.getElem?_toArray, List.getElem?_cons_succ, List.getElem?_cons_zero] at b4_1 b5_1
  go_wp2_with fail
  refine (szDecS_of I2.out x.ds o2 c2 _ r1 (by omega) (by omega) hd.1 (Q2.out.later HB1.out (reads_later HB1.out h).2.1)).mono ?_
  rintro e w2 ⟨r2, rfl, hr2, hs2, hb⟩
  have HR2 := hide hs2
  have HB2 := hide (HB1.out.trans (hb.mono HB1.out.size))
  have HX2 := hide ((hb.block w.heap.size (heap_lt HX1.out)).trans HX1.out)
  clear hs2 hb
  by_cases hneg2 : r2 < 0
  · go_wp2
    go_ret
    exact ⟨-1, rfl, by omega, fun h => by omega, HB2.out⟩
  have b5_2 := cell_of HX2.out 5
  simp only [List.getElem?_toArray, List.getElem?_cons_succ, List.getElem?_cons_zero] at b5_2
  go_wp2_with fail
  refine (szAltS_of I3.out x.al o3 c3 _ r2 (by omega) (by omega) ha.1 (Q3.out.later HB2.out (reads_later HB2.out h).2.2)).mono ?_
  rintro e w3 ⟨r3, rfl, hr3, hs3, hb⟩
  have HR3 := hide hs3
  have HB3 := hide (HB2.out.trans (hb.mono HB2.out.size))
  have HX3 := hide ((hb.block w.heap.size (heap_lt HX2.out)).trans HX2.out)
  clear hs3 hb
  by_cases hneg3 : r3 < 0
  · go_wp2
    go_ret
    exact ⟨-1, rfl, by omega, fun h => by omega, HB3.out⟩
  go_wp2
  go_ret
  refine ⟨r3, rfl, by omega, fun h0 => ?_, HB3.out⟩
  have a1 := HR1.out (by omega)
  have a2 := HR2.out (by omega)
  have a3 := HR3.out (by omega)
  show ((x.s.size + lw (wts h).ex x.l + lw (wts h).de x.ds + lw (wts h).al x.al : Nat) : Int) ≤ z - r3
  omega

set_option maxHeartbeats 4000000 in
set_option maxRecDepth 100000 in
theorem szDec_step {K : Nat → Prop} {h : Nat} (i1 : SzEx K h) (i2 : SzDe K h) : SzDe K (h + 1) := by
  intro x cs w z hz0 hz hrd
  obtain ⟨-, -, -, y, o1, c1, ce, o2, c2, hy, rfl, hs, hl, hd, q1, hce, q2, q3⟩ := hrd
  obtain ⟨a0, a1, a2, a3, a4, a5, rfl⟩ := six hce
  simp only [List.cons_append, List.nil_append]
  have hs2 : x.s.size ≤ 9223372036854775807 := hs
  have I1 := hide i1
  have I2 := hide i2
  have Q1 := hide q1
  have Q2 := hide q2
  have Q3 := hide q3
  have HY := hide hy
  clear i1 i2 q1 q2 q3 hs hy hce
  have HX0 : Hid ((w.alloc (.cells #[.string x.s, .slice o1 x.ss.length c1, a0, a1, a2, a3, a4, a5, .slice o2 x.ds.length c2] 68)).heap[w.heap.size]? = some (.cells #[.string x.s, .slice o1 x.ss.length c1, a0, a1, a2, a3, a4, a5, .slice o2 x.ds.length c2] 68 (0, 0))) := heap_alloc_new w _
  have HB0 : Hid (Below w.heap.size w (w.alloc (.cells #[.string x.s, .slice o1 x.ss.length c1, a0, a1, a2, a3, a4, a5, .slice o2 x.ds.length c2] 68))) := (Below.refl _ w).alloc (Nat.le_refl _) _
  by_cases hn0 : z - x.s.size < 0
  · go_enter Tryz.func25, Tryz.ntmps25
    go_wp2
    go_ret
    exact ⟨-1, rfl, by omega, fun h => by omega, HB0.out⟩
  go_enter Tryz.func25, Tryz.ntmps25
  go_wp2_with fail
  refine (szStringS_any x.ss o1 c1 _ (z - x.s.size) (by omega) (by omega) hl.1 (Q1.out.later HB0.out fun _ _ h => h)).mono ?_
  rintro e w1 ⟨r1, rfl, hr1, hs1, hb⟩
  have HR1 := hide hs1
  have HB1 := hide (HB0.out.trans (hb.mono HB0.out.size))
  have HX1 := hide ((hb.block w.heap.size (heap_lt HX0.out)).trans HX0.out)
  clear hs1 hb
  by_cases hneg1 : r1 < 0
  · go_wp2
    go_ret
    exact ⟨-1, rfl, by omega, fun h => by omega, HB1.out⟩
  have b2_1 := cell_of HX1.out 2
  have b3_1 := cell_of HX1.out 3
  have b4_1 := cell_of HX1.out 4
  have b5_1 := cell_of HX1.out 5
  have b6_1 := cell_of HX1.out 6
  have b7_1 := cell_of HX1.out 7
  have b8_1 := cell_of HX1.out 8
  simp only [List.getElem?_toArray, List.getElem?_cons_succ, List.getElem?_cons_zero] at b2_1 b3_1 b4_1 b5_1 b6_1 b7_1 b8_1
  go_wp2_with fail
  refine (I1.out y _ _ r1 (by omega) (by omega) ((reads_later HB1.out h).1 _ _ Q2.out)).mono ?_
  rintro e w2 ⟨r2, rfl, hr2, hs2, hb⟩
  have HR2 := hide hs2
  have HB2 := hide (HB1.out.trans (hb.mono HB1.out.size))
  have HX2 := hide ((hb.block w.heap.size (heap_lt HX1.out)).trans HX1.out)
  clear hs2 hb
  by_cases hneg2 : r2 < 0
  · go_wp2
    go_ret
    exact ⟨-1, rfl, by omega, fun h => by omega, HB2.out⟩
  have b8_2 := cell_of HX2.out 8
  simp only [List.getElem?_toArray, List.getElem?_cons_succ, List.getElem?_cons_zero] at b8_2
  go_wp2_with fail
  refine (szDecS_of I2.out x.ds o2 c2 _ r2 (by omega) (by omega) hd.1 (Q3.out.later HB2.out (reads_later HB2.out h).2.1)).mono ?_
  rintro e w3 ⟨r3, rfl, hr3, hs3, hb⟩
  have HR3 := hide hs3
  have HB3 := hide (HB2.out.trans (hb.mono HB2.out.size))
  have HX3 := hide ((hb.block w.heap.size (heap_lt HX2.out)).trans HX2.out)
  clear hs3 hb
  by_cases hneg3 : r3 < 0
  · go_wp2
    go_ret
    exact ⟨-1, rfl, by omega, fun h => by omega, HB3.out⟩
  go_wp2
  go_ret
  refine ⟨r3, rfl, by omega, fun h0 => ?_, HB3.out⟩
  have a1 := HR1.out (by omega)
  have a2 := HR2.out (by omega)
  have a3 := HR3.out (by omega)
  show ((x.s.size + sw x.ss + (x.l.map (wts h).ex).sum + lw (wts h).de x.ds : Nat) : Int) ≤ z - r3
  rw [HY.out]
  simp only [List.map_cons, List.map_nil, List.sum_cons, List.sum_nil]
  omega

set_option maxHeartbeats 4000000 in
set_option maxRecDepth 100000 in
theorem szAlt_step {K : Nat → Prop} {h : Nat} (i1 : SzEx K h) : SzAl K (h + 1) := by
  intro x cs w z hz0 hz hrd
  obtain ⟨-, -, -, -, y, o1, c1, ce, hy, rfl, hs, hl, q1, hce, q2⟩ := hrd
  obtain ⟨a0, a1, a2, a3, a4, a5, rfl⟩ := six hce
  simp only [List.cons_append, List.nil_append]
  have hs2 : x.s.size ≤ 9223372036854775807 := hs
  have I1 := hide i1
  have Q1 := hide q1
  have Q2 := hide q2
  have HY := hide hy
  clear i1 q1 q2 hs hy hce
  have HX0 : Hid ((w.alloc (.cells #[.string x.s, .slice o1 x.ss.length c1, a0, a1, a2, a3, a4, a5] 164)).heap[w.heap.size]? = some (.cells #[.string x.s, .slice o1 x.ss.length c1, a0, a1, a2, a3, a4, a5] 164 (0, 0))) := heap_alloc_new w _
  have HB0 : Hid (Below w.heap.size w (w.alloc (.cells #[.string x.s, .slice o1 x.ss.length c1, a0, a1, a2, a3, a4, a5] 164))) := (Below.refl _ w).alloc (Nat.le_refl _) _
  by_cases hn0 : z - x.s.size < 0
  · go_enter Tryz.func106, Tryz.ntmps106
    go_wp2
    go_ret
    exact ⟨-1, rfl, by omega, fun h => by omega, HB0.out⟩
  go_enter Tryz.func106, Tryz.ntmps106
  go_wp2_with fail
  refine (szStringS_any x.ss o1 c1 _ (z - x.s.size) (by omega) (by omega) hl.1 (Q1.out.later HB0.out fun _ _ h => h)).mono ?_
  rintro e w1 ⟨r1, rfl, hr1, hs1, hb⟩
  have HR1 := hide hs1
  have HB1 := hide (HB0.out.trans (hb.mono HB0.out.size))
  have HX1 := hide ((hb.block w.heap.size (heap_lt HX0.out)).trans HX0.out)
  clear hs1 hb
  by_cases hneg1 : r1 < 0
  · go_wp2
    go_ret
    exact ⟨-1, rfl, by omega, fun h => by omega, HB1.out⟩
  have b2_1 := cell_of HX1.out 2
  have b3_1 := cell_of HX1.out 3
  have b4_1 := cell_of HX1.out 4
  have b5_1 := cell_of HX1.out 5
  have b6_1 := cell_of HX1.out 6
  have b7_1 := cell_of HX1.out 7
  simp only [List.getElem?_toArray, List.getElem?_cons_succ, List.getElem?_cons_zero] at b2_1 b3_1 b4_1 b5_1 b6_1 b7_1
  go_wp2_with fail
  refine (I1.out y _ _ r1 (by omega) (by omega) ((reads_later HB1.out h).1 _ _ Q2.out)).mono ?_
  rintro e w2 ⟨r2, rfl, hr2, hs2, hb⟩
  have HR2 := hide hs2
  have HB2 := hide (HB1.out.trans (hb.mono HB1.out.size))
  have HX2 := hide ((hb.block w.heap.size (heap_lt HX1.out)).trans HX1.out)
  clear hs2 hb
  by_cases hneg2 : r2 < 0
  · go_wp2
    go_ret
    exact ⟨-1, rfl, by omega, fun h => by omega, HB2.out⟩
  go_wp2
  go_ret
  refine ⟨r2, rfl, by omega, fun h0 => ?_, HB2.out⟩
  have a1 := HR1.out (by omega)
  have a2 := HR2.out (by omega)
  show ((x.s.size + sw x.ss + (x.l.map (wts h).ex).sum : Nat) : Int) ≤ z - r2
  rw [HY.out]
  simp only [List.map_cons, List.map_nil, List.sum_cons, List.sum_nil]
  omega

theorem sz_all (K : Nat → Prop) (h : Nat) : SzEx K h ∧ SzDe K h ∧ SzAl K h := by
  induction h with
  | zero => exact ⟨fun _ _ _ _ _ _ hr => hr.elim, fun _ _ _ _ _ _ hr => hr.elim, fun _ _ _ _ _ _ hr => hr.elim⟩
  | succ h ih => exact ⟨szExp_step ih.1 ih.2.1 ih.2.2, szDec_step ih.1 ih.2.1, szAlt_step ih.1⟩
end Go.Proofs.YtlaeenfeajkcfalGreat
namespace Go.Proofs.YtlaeenfeajkcfalGreat
open Go.ChangeShapes Go.WideShapes Go.ChangeAt Go.RowKit

/-- All blocks; those from one on; those behind one. -/
abbrev AllK : Nat → Prop := fun _ => True
def FromK (n : Nat) : Nat → Prop := fun b => n ≤ b
def putAt : Array Value → Nat → List Value → Array Value
  | cur, _, [] => cur
  | cur, p, v :: r => putAt (cur.set! p v) (p + 1) r
theorem putAt_out (cs : List Value) : ∀ (cur : Array Value) (p q : Nat), (q < p ∨ p + cs.length ≤ q) → (putAt cur p cs)[q]? = cur[q]? := by
  induction cs with
  | nil => intro _ _ _ _; rfl
  | cons v r ih =>
    intro cur p q h
    show (putAt (cur.set! p v) (p + 1) r)[q]? = _
    rw [List.length_cons] at h
    rw [ih _ _ _ (by omega), Array.set!_eq_setIfInBounds, Array.getElem?_setIfInBounds_ne (by omega)]
theorem putAt_in (cs : List Value) : ∀ (cur : Array Value) (p j : Nat) (u : Value), p + cs.length ≤ cur.size → cs[j]? = some u → (putAt cur p cs)[p + j]? = some u := by
  induction cs with
  | nil => intro _ _ _ _ _ h; simp at h
  | cons v r ih =>
    intro cur p j u hs h
    show (putAt (cur.set! p v) (p + 1) r)[p + j]? = _
    rw [List.length_cons] at hs
    cases j with
    | zero =>
      have : v = u := by simpa using h
      subst this
      rw [putAt_out _ _ _ _ (by omega), Array.set!_eq_setIfInBounds, Nat.add_zero, Array.getElem?_setIfInBounds_self_of_lt (by omega)]
    | succ j =>
      rw [show p + (j + 1) = (p + 1) + j by omega]
      exact ih _ _ _ _ (by simp; omega) (by simpa using h)

/-- The elements that a row's cells hold so far. -/
def Filled {α : Type} (R : α → List Value → Prop) (size : Nat) (cur : Array Value) (xs : List α) : Prop :=
  ∀ k x, xs[k]? = some x → ∃ cs, cs.length = size ∧ (∀ j u, cs[j]? = some u → cur[k * size + j]? = some u) ∧ R x cs
theorem Filled.nil {α : Type} (R : α → List Value → Prop) (size : Nat) (cur : Array Value) : Filled R size cur ([] : List α) := fun k x h => by simp at h
theorem Filled.snoc {α : Type} {R R' : α → List Value → Prop} {size : Nat} {cur : Array Value} {xs : List α} {i : Nat} {x : α} {cs : List Value} (h : Filled R size cur (xs.take i)) (hR : ∀ x cs, R x cs → R' x cs) (hx : xs[i]? = some x) (hl : cs.length = size) (hs : cur.size = xs.length * size) (hr : R' x cs) : Filled R' size (putAt cur (i * size) cs) (xs.take (i + 1)) := by
  have hi : i < xs.length := (List.getElem?_eq_some_iff.1 hx).1
  have hmul : (i + 1) * size ≤ xs.length * size := Nat.mul_le_mul_right _ hi
  have hone : (i + 1) * size = i * size + size := by rw [Nat.add_mul, Nat.one_mul]
  intro k y hy
  by_cases hk : k < i
  · rw [List.getElem?_take, if_pos (by omega)] at hy
    obtain ⟨cs', h1, h2, h3⟩ := h k y (by rw [List.getElem?_take, if_pos hk]; exact hy)
    refine ⟨cs', h1, fun j u hu => ?_, hR _ _ h3⟩
    have hj : j < size := by rw [← h1]; exact (List.getElem?_eq_some_iff.1 hu).1
    have hk2 : (k + 1) * size ≤ i * size := Nat.mul_le_mul_right _ hk
    have hk3 : (k + 1) * size = k * size + size := by rw [Nat.add_mul, Nat.one_mul]
    rw [putAt_out _ _ _ _ (by omega)]
    exact h2 j u hu
  · have hk2 : k = i := by
      have := (List.getElem?_eq_some_iff.1 hy).1
      rw [List.length_take] at this
      omega
    subst hk2
    have hxy : x = y := by
      rw [List.getElem?_take, if_pos (by omega), hx] at hy
      simpa using hy
    subst hxy
    exact ⟨cs, hl, fun j u hu => putAt_in _ _ _ _ _ (by omega) hu, hr⟩
theorem Filled.row {α : Type} {K : Nat → Prop} {w : World} {R : α → List Value → Prop} {size : Nat} {cur : Array Value} {e : TypeId} {b : Nat} {xs : List α} (h : Filled R size cur xs) (hg : w.heap[b]? = some (.cells cur e (0, 0))) (hK : K b) : RowOf K w R size (some ⟨b, 0, none⟩) xs := by
  intro _
  refine ⟨b, 0, rfl, hK, heap_lt hg, fun i x hx => ?_⟩
  obtain ⟨cs, h1, h2, h3⟩ := h i x hx
  refine ⟨cs, h1, fun j u hu => ?_, h3⟩
  rw [Nat.zero_add, cell_of hg]
  exact h2 j u hu
/-- What is new are plain rows, none of them frozen. -/
def Plain (w w' : World) : Prop := ∀ b, w.heap.size ≤ b → b < w'.heap.size → ∃ c e, w'.heap[b]? = some (.cells c e (0, 0))
theorem Plain.refl (w : World) : Plain w w := fun b h1 h2 => by omega
theorem Plain.on {w w1 w2 : World} (h : Plain w w1) (k : Plain w1 w2) (hb : Below w1.heap.size w1 w2) : Plain w w2 := by
  intro b h1 h2
  by_cases hl : b < w1.heap.size
  · obtain ⟨c, e, hc⟩ := h b h1 hl
    exact ⟨c, e, (hb.block b hl).trans hc⟩
  · exact k b (by omega) h2
theorem Plain.alloc {w w1 : World} (h : Plain w w1) (c : Array Value) (e : TypeId) : Plain w (w1.alloc (.cells c e)) := by
  intro b h1 h2
  by_cases hl : b < w1.heap.size
  · obtain ⟨c', e', hc⟩ := h b h1 hl
    exact ⟨c', e', (Below.heap_alloc _ _ _ hl).trans hc⟩
  · have hb : b = w1.heap.size := by simp at h2; omega
    subst hb
    exact ⟨c, e, heap_alloc_new w1 _⟩
theorem Plain.set {w w1 : World} (h : Plain w w1) (g j : Nat) (v : Value) : Plain w (w1.setCell ⟨g, j, none⟩ v) := by
  intro b h1 h2
  have h3 : b < w1.heap.size := by simpa using h2
  obtain ⟨c, e, hc⟩ := h b h1 h3
  by_cases hg : b = g
  · subst hg
    exact ⟨_, _, heap_set_same v hc⟩
  · exact ⟨c, e, (heap_set_other v hg).trans hc⟩
theorem Stays.refl (K : Nat → Prop) (w : World) : Stays K w w := ⟨Nat.le_refl _, fun _ _ _ => rfl⟩
theorem le_sum {α : Type} (f : α → Nat) (xs : List α) (x : α) (h : x ∈ xs) : f x ≤ (xs.map f).sum := by
  induction xs with
  | nil => cases h
  | cons y r ih =>
    rw [List.map_cons, List.sum_cons]
    rcases List.mem_cons.1 h with rfl | h
    · omega
    · have := ih h
      omega

theorem ex_form {K : Nat → Prop} {w : World} {h : Nat} {x : Tr} {cs : List Value} (hr : (reads K w h).ex x cs) : ∃ o1 c1 o2 c2 o3 c3, cs = [.int .i64 x.k, .string x.s, .int .i64 x.n, .slice o1 x.l.length c1, .slice o2 x.ds.length c2, .slice o3 x.al.length c3] := by
  cases h with
  | zero => exact hr.elim
  | succ h =>
    obtain ⟨-, o1, c1, o2, c2, o3, c3, e, -⟩ := hr
    exact ⟨o1, c1, o2, c2, o3, c3, e⟩
theorem de_form {K : Nat → Prop} {w : World} {h : Nat} {x : Tr} {cs : List Value} (hr : (reads K w h).de x cs) : ∃ (y : Tr) (o : Option Addr) (c : Nat) (o1 : Option Addr) (c1 : Nat) (o2 : Option Addr) (c2 : Nat) (o3 : Option Addr) (c3 : Nat) (o4 : Option Addr) (c4 : Nat), cs = [.string x.s, .slice o x.ss.length c, .int .i64 y.k, .string y.s, .int .i64 y.n, .slice o1 y.l.length c1, .slice o2 y.ds.length c2, .slice o3 y.al.length c3, .slice o4 x.ds.length c4] := by
  cases h with
  | zero => exact hr.elim
  | succ h =>
    obtain ⟨-, -, -, y, o, c, ce, o4, c4, -, e, -, -, -, -, -, q, -⟩ := hr
    obtain ⟨o1, c1, o2, c2, o3, c3, rfl⟩ := ex_form q
    exact ⟨y, o, c, o1, c1, o2, c2, o3, c3, o4, c4, e⟩
theorem al_form {K : Nat → Prop} {w : World} {h : Nat} {x : Tr} {cs : List Value} (hr : (reads K w h).al x cs) : ∃ (y : Tr) (o : Option Addr) (c : Nat) (o1 : Option Addr) (c1 : Nat) (o2 : Option Addr) (c2 : Nat) (o3 : Option Addr) (c3 : Nat), cs = [.string x.s, .slice o x.ss.length c, .int .i64 y.k, .string y.s, .int .i64 y.n, .slice o1 y.l.length c1, .slice o2 y.ds.length c2, .slice o3 y.al.length c3] := by
  cases h with
  | zero => exact hr.elim
  | succ h =>
    obtain ⟨-, -, -, -, y, o, c, ce, -, e, -, -, -, -, q⟩ := hr
    obtain ⟨o1, c1, o2, c2, o3, c3, rfl⟩ := ex_form q
    exact ⟨y, o, c, o1, c1, o2, c2, o3, c3, e⟩

def ToEx (h : Nat) : Prop := ∀ (x : Tr) (cs : List Value) (w : World), (reads AllK w h).ex x cs → (wts h).ex x ≤ 1048576 → Calls Tryz.prog 64 #[.agg cs.toArray] w fun e w' => ∃ cs', e = .returned (.agg cs'.toArray) ∧ cs'.length = 6 ∧ (reads (FromK w.heap.size) w' h).ex x cs' ∧ Below w.heap.size w w' ∧ Plain w w'
def ToDe (h : Nat) : Prop := ∀ (x : Tr) (cs : List Value) (w : World), (reads AllK w h).de x cs → (wts h).de x ≤ 1048576 → Calls Tryz.prog 34 #[.agg cs.toArray] w fun e w' => ∃ cs', e = .returned (.agg cs'.toArray) ∧ cs'.length = 9 ∧ (reads (FromK w.heap.size) w' h).de x cs' ∧ Below w.heap.size w w' ∧ Plain w w'
def ToAl (h : Nat) : Prop := ∀ (x : Tr) (cs : List Value) (w : World), (reads AllK w h).al x cs → (wts h).al x ≤ 1048576 → Calls Tryz.prog 111 #[.agg cs.toArray] w fun e w' => ∃ cs', e = .returned (.agg cs'.toArray) ∧ cs'.length = 8 ∧ (reads (FromK w.heap.size) w' h).al x cs' ∧ Below w.heap.size w w' ∧ Plain w w'

theorem info_string : (Tryz.prog.info? 9).map (fun i => (i.zero, i.size, i.bytes)) = some (some (.string ⟨#[]⟩), 1, 16) := by kernel_rfl
theorem make_strs (n : Nat) (hn : n ≤ 1048576) (w : World) : (Instr.makeSlice 38 (.int .i64 (n : Int)) (.int .i64 (n : Int))).run Tryz.prog w = .ok (.slice (some ⟨w.heap.size, 0, none⟩) n n) (w.alloc (.cells (madeCells #[.string ⟨#[]⟩] (n * 1)) 9)) := by
  obtain ⟨i0, hi, hz0, hz1, hz2⟩ := info_parts info_string
  have hr := run_make (P := Tryz.prog) w 38 9 i0 _ Tryz.underlying38 hi hz0 .i64 .i64 n n (by omega) (Int.le_refl _) (by rw [hz2]; omega) (by omega)
  rw [hz1, Int.toNat_natCast] at hr
  exact hr

set_option maxHeartbeats 2000000 in
set_option maxRecDepth 100000 in
theorem toStringS_any {K : Nat → Prop} (xs : List ByteArray) (o : Option Addr) (cap : Nat) (w : World) (hl : xs.length ≤ 1048576) (hm : RowOf K w strR 1 o xs) :
    Calls Tryz.prog 63 #[.slice o xs.length cap] w fun e w' => ∃ o' c', e = .returned (.slice o' xs.length c') ∧ xs.length ≤ c' ∧ RowOf (FromK w.heap.size) w' strR 1 o' xs ∧ Below w.heap.size w w' ∧ Plain w w' := by
  have HM := hide hm
  clear hm
  have hmk := make_strs xs.length hl
  go_enter Tryz.func63, Tryz.ntmps63
  go_wp2
  clear hmk
  go_loopw [4] (fun t4 wr => ∃ (i : Nat) (cur : Array Value), i ≤ xs.length ∧ t4 = .int .i64 i ∧ wr.heap[w.heap.size]? = some (.cells cur 9 (0, 0)) ∧ cur.size = xs.length * 1 ∧ Filled strR 1 cur (xs.take i) ∧ Below w.heap.size w wr ∧ Plain w wr) (fun t4 _ => xs.length - (intOf t4).toNat)
  case atStart => exact ⟨0, _, Nat.zero_le _, rfl, heap_alloc_new w _, by rw [size_madeCells, Nat.mul_one], Filled.nil _ _ _, (Below.refl _ w).alloc (Nat.le_refl _) _, (Plain.refl w).alloc _ _⟩
  case round =>
    obtain ⟨i, cur, hi, rfl, hcur, hsz, hfl, hbw, hpl⟩ := hrel
    have HPL := hide hpl
    clear hpl
    have HC := hide hcur
    have HF := hide hfl
    have HBW := hide hbw
    have HSZ := hide hsz
    clear hcur hfl hbw hsz
    by_cases hlt : i < xs.length
    · have hne : xs ≠ [] := by intro e; rw [e] at hlt; simp at hlt
      obtain ⟨x, hx⟩ : ∃ x, xs[i]? = some x := ⟨xs[i], List.getElem?_eq_getElem hlt⟩
      obtain ⟨b, off, eo, -, hbl, hcs⟩ := (HM.out.later HBW.out fun _ _ h => h) hne
      subst eo
      obtain ⟨cs, hlen, hkey, hcx, hxs⟩ := hcs i x hx
      subst hcx
      have q0 := hkey 0 _ rfl
      rw [Nat.mul_one, Nat.add_zero] at q0
      have HX := hide hx
      have HXS := hide hxs
      clear hcs hx hne hkey hlen hxs
      have hlt2 : (i : Int) < xs.length := by omega
      have s0 := cell_of HC.out i
      rw [Array.getElem?_eq_getElem (by rw [HSZ.out]; omega)] at s0
      have f0 := frozen_of HC.out i
      go_wp2
      refine ⟨⟨i + 1, _, by omega, by go_num, heap_set_same _ HC.out, by simpa using HSZ.out, ?_, HBW.out.setCell (Nat.le_refl _) _, HPL.out.set _ _ _⟩, by simp [intOf]; omega⟩
      have key := HF.out.snoc (cs := [.string x]) (fun _ _ h => h) HX.out rfl HSZ.out ⟨rfl, HXS.out⟩
      rw [Nat.mul_one] at key
      exact key
    · go_wp2
      go_ret
      have hie : i = xs.length := by omega
      subst hie
      have key := HF.out
      rw [List.take_length] at key
      exact ⟨_, _, rfl, Nat.le_refl _, key.row HC.out (Nat.le_refl _), HBW.out, HPL.out⟩

theorem info_Exp : (Tryz.prog.info? 75).map (fun i => (i.zero, i.size, i.bytes)) = some (some (.agg #[.int .i64 0, .string ⟨#[]⟩, .int .i64 0, .slice none 0 0, .slice none 0 0, .slice none 0 0]), 6, 104) := by kernel_rfl
theorem make_Exp (n : Nat) (hn : n ≤ 1048576) (w : World) : (Instr.makeSlice 72 (.int .i64 (n : Int)) (.int .i64 (n : Int))).run Tryz.prog w = .ok (.slice (some ⟨w.heap.size, 0, none⟩) n n) (w.alloc (.cells (madeCells #[.int .i64 0, .string ⟨#[]⟩, .int .i64 0, .slice none 0 0, .slice none 0 0, .slice none 0 0] (n * 6)) 75)) := by
  obtain ⟨i0, hi, hz0, hz1, hz2⟩ := info_parts info_Exp
  have hr := run_make (P := Tryz.prog) w 72 75 i0 _ Tryz.underlying72 hi hz0 .i64 .i64 n n (by omega) (Int.le_refl _) (by rw [hz2]; omega) (by omega)
  rw [hz1, Int.toNat_natCast] at hr
  exact hr

set_option maxHeartbeats 800000 in
set_option maxRecDepth 100000 in
theorem toExpS_of {h : Nat} (hE : ToEx h) (xs : List Tr) (o : Option Addr) (cap : Nat) (w : World) (hl : lw (wts h).ex xs ≤ 1048576) (hm : RowOf AllK w (reads AllK w h).ex 6 o xs) :
    Calls Tryz.prog 88 #[.slice o xs.length cap] w fun e w' => ∃ o' c', e = .returned (.slice o' xs.length c') ∧ xs.length ≤ c' ∧ RowOf (FromK w.heap.size) w' (reads (FromK w.heap.size) w' h).ex 6 o' xs ∧ Below w.heap.size w w' ∧ Plain w w' := by
  have HM := hide hm
  have HE := hide hE
  have HL := hide hl
  have hl2 : xs.length ≤ 1048576 := by unfold lw at hl; omega
  clear hm hE hl
  have hmk := make_Exp xs.length hl2
  go_enter Tryz.func88, Tryz.ntmps88
  go_wp2
  clear hmk
  go_loopw [4] (fun t4 wr => ∃ (i : Nat) (cur : Array Value), i ≤ xs.length ∧ t4 = .int .i64 i ∧ wr.heap[w.heap.size]? = some (.cells cur 75 (0, 0)) ∧ cur.size = xs.length * 6 ∧ Filled (reads (FromK (w.heap.size + 1)) wr h).ex 6 cur (xs.take i) ∧ Below w.heap.size w wr ∧ Plain w wr) (fun t4 _ => xs.length - (intOf t4).toNat)
  case atStart => exact ⟨0, _, Nat.zero_le _, rfl, heap_alloc_new w _, by rw [size_madeCells], Filled.nil _ _ _, (Below.refl _ w).alloc (Nat.le_refl _) _, (Plain.refl w).alloc _ _⟩
  case round =>
    obtain ⟨i, cur, hi, rfl, hcur, hsz, hfl, hbw, hpl⟩ := hrel
    have HPL := hide hpl
    clear hpl
    have HC := hide hcur
    have HF := hide hfl
    have HBW := hide hbw
    have HSZ := hide hsz
    clear hcur hfl hbw hsz
    by_cases hlt : i < xs.length
    · have hne : xs ≠ [] := by intro e; rw [e] at hlt; simp at hlt
      obtain ⟨x, hx⟩ : ∃ x, xs[i]? = some x := ⟨xs[i], List.getElem?_eq_getElem hlt⟩
      obtain ⟨b, off, eo, -, hbl, hcs⟩ := (HM.out.later HBW.out fun _ _ h => h) hne
      subst eo
      obtain ⟨cs, hlen, hkey, hrd⟩ := hcs i x hx
      obtain ⟨v0, v1, v2, v3, v4, v5, rfl⟩ := six hlen
      have q0 := hkey 0 v0 rfl
      have q1 := hkey 1 v1 rfl
      have q2 := hkey 2 v2 rfl
      have q3 := hkey 3 v3 rfl
      have q4 := hkey 4 v4 rfl
      have q5 := hkey 5 v5 rfl
      rw [Nat.add_zero] at q0
      have HX := hide hx
      have HRD := hide ((reads_later HBW.out h).1 x _ hrd)
      have HWT : Hid ((wts h).ex x ≤ 1048576) := by
        have h1 := le_sum (wts h).ex xs x (List.mem_of_getElem? hx)
        have h2 := HL.out
        unfold lw at h2
        exact (by omega : (wts h).ex x ≤ 1048576)
      clear hcs hx hne hkey hlen hrd
      have hlt2 : (i : Int) < xs.length := by omega
      have hw : w.heap.size < wr.heap.size := heap_lt HC.out
      go_wp2_with fail
      refine (HE.out x _ _ HRD.out HWT.out).mono ?_
      rintro e w1 ⟨cs', rfl, hlen', hrd', hb1, hpl1⟩
      obtain ⟨p1, d1, p2, d2, p3, d3, rfl⟩ := ex_form hrd'
      have HB1 := hide hb1
      have HP1 := hide (HPL.out.on hpl1 hb1)
      clear hpl1
      have HRD1 := hide hrd'
      have HC1 := hide ((hb1.block w.heap.size hw).trans HC.out)
      clear hb1 hrd' hlen'
      have s0 := cell_of HC1.out (i * 6)
      have s1 := cell_of HC1.out (i * 6 + 1)
      have s2 := cell_of HC1.out (i * 6 + 2)
      have s3 := cell_of HC1.out (i * 6 + 3)
      have s4 := cell_of HC1.out (i * 6 + 4)
      have s5 := cell_of HC1.out (i * 6 + 5)
      rw [Array.getElem?_eq_getElem (by rw [HSZ.out]; omega)] at s0 s1 s2 s3 s4 s5
      have f0 := frozen_of HC1.out (i * 6)
      have f1 := frozen_of HC1.out (i * 6 + 1)
      have f2 := frozen_of HC1.out (i * 6 + 2)
      have f3 := frozen_of HC1.out (i * 6 + 3)
      have f4 := frozen_of HC1.out (i * 6 + 4)
      have f5 := frozen_of HC1.out (i * 6 + 5)
      go_wp2
      refine ⟨⟨i + 1, _, by omega, by go_num, heap_set_same _ (heap_set_same _ (heap_set_same _ (heap_set_same _ (heap_set_same _ (heap_set_same _ HC1.out))))), by simpa using HSZ.out, ?_, ?_, (((((HP1.out.set _ _ _).set _ _ _).set _ _ _).set _ _ _).set _ _ _).set _ _ _⟩, by simp [intOf]; omega⟩
      · have no : ¬ FromK (w.heap.size + 1) w.heap.size := fun h => by have h2 : w.heap.size + 1 ≤ w.heap.size := h; omega
        have st := (((((stays_set (FromK (w.heap.size + 1)) w1 w.heap.size (i * 6) (.int .i64 x.k) no).trans (stays_set _ _ _ (i * 6 + 1) (.string x.s) no)).trans (stays_set _ _ _ (i * 6 + 2) (.int .i64 x.n) no)).trans (stays_set _ _ _ (i * 6 + 3) (.slice p1 x.l.length d1) no)).trans (stays_set _ _ _ (i * 6 + 4) (.slice p2 x.ds.length d2) no)).trans (stays_set _ _ _ (i * 6 + 5) (.slice p3 x.al.length d3) no)
        have sw := (Stays.of (K := FromK (w.heap.size + 1)) HB1.out).trans st
        have key := HF.out.snoc (cs := [.int .i64 x.k, .string x.s, .int .i64 x.n, .slice p1 x.l.length d1, .slice p2 x.ds.length d2, .slice p3 x.al.length d3]) (reads_frame sw (fun _ h => h) h).1 HX.out rfl HSZ.out ((reads_frame st (fun _ h => h) h).1 _ _ ((reads_frame (Stays.refl _ _) (fun b (hb : wr.heap.size ≤ b) => (by show w.heap.size + 1 ≤ b; omega)) h).1 _ _ HRD1.out))
        exact key
      · have h1 := HBW.out.trans (HB1.out.mono HBW.out.size)
        exact (((((h1.setCell (Nat.le_refl _) _).setCell (Nat.le_refl _) _).setCell (Nat.le_refl _) _).setCell (Nat.le_refl _) _).setCell (Nat.le_refl _) _).setCell (Nat.le_refl _) _
    · go_wp2
      go_ret
      have hie : i = xs.length := by omega
      subst hie
      have key := HF.out
      rw [List.take_length] at key
      refine ⟨_, _, rfl, Nat.le_refl _, RowOf.frame (K := FromK w.heap.size) (key.row HC.out (Nat.le_refl _)) (Stays.refl _ _) (fun _ h => h) (fun x cs hx => ?_), HBW.out, HPL.out⟩
      exact (reads_frame (Stays.refl _ _) (fun b (hb : w.heap.size + 1 ≤ b) => (by show w.heap.size ≤ b; omega)) h).1 _ _ hx

theorem info_Dec : (Tryz.prog.info? 77).map (fun i => (i.zero, i.size, i.bytes)) = some (some (.agg #[.string ⟨#[]⟩, .slice none 0 0, .int .i64 0, .string ⟨#[]⟩, .int .i64 0, .slice none 0 0, .slice none 0 0, .slice none 0 0, .slice none 0 0]), 9, 168) := by kernel_rfl
theorem make_Dec (n : Nat) (hn : n ≤ 1048576) (w : World) : (Instr.makeSlice 29 (.int .i64 (n : Int)) (.int .i64 (n : Int))).run Tryz.prog w = .ok (.slice (some ⟨w.heap.size, 0, none⟩) n n) (w.alloc (.cells (madeCells #[.string ⟨#[]⟩, .slice none 0 0, .int .i64 0, .string ⟨#[]⟩, .int .i64 0, .slice none 0 0, .slice none 0 0, .slice none 0 0, .slice none 0 0] (n * 9)) 77)) := by
  obtain ⟨i0, hi, hz0, hz1, hz2⟩ := info_parts info_Dec
  have hr := run_make (P := Tryz.prog) w 29 77 i0 _ Tryz.underlying29 hi hz0 .i64 .i64 n n (by omega) (Int.le_refl _) (by rw [hz2]; omega) (by omega)
  rw [hz1, Int.toNat_natCast] at hr
  exact hr

set_option maxHeartbeats 800000 in
set_option maxRecDepth 100000 in
theorem toDecS_of {h : Nat} (hE : ToDe h) (xs : List Tr) (o : Option Addr) (cap : Nat) (w : World) (hl : lw (wts h).de xs ≤ 1048576) (hm : RowOf AllK w (reads AllK w h).de 9 o xs) :
    Calls Tryz.prog 16 #[.slice o xs.length cap] w fun e w' => ∃ o' c', e = .returned (.slice o' xs.length c') ∧ xs.length ≤ c' ∧ RowOf (FromK w.heap.size) w' (reads (FromK w.heap.size) w' h).de 9 o' xs ∧ Below w.heap.size w w' ∧ Plain w w' := by
  have HM := hide hm
  have HE := hide hE
  have HL := hide hl
  have hl2 : xs.length ≤ 1048576 := by unfold lw at hl; omega
  clear hm hE hl
  have hmk := make_Dec xs.length hl2
  go_enter Tryz.func16, Tryz.ntmps16
  go_wp2
  clear hmk
  go_loopw [4] (fun t4 wr => ∃ (i : Nat) (cur : Array Value), i ≤ xs.length ∧ t4 = .int .i64 i ∧ wr.heap[w.heap.size]? = some (.cells cur 77 (0, 0)) ∧ cur.size = xs.length * 9 ∧ Filled (reads (FromK (w.heap.size + 1)) wr h).de 9 cur (xs.take i) ∧ Below w.heap.size w wr ∧ Plain w wr) (fun t4 _ => xs.length - (intOf t4).toNat)
  case atStart => exact ⟨0, _, Nat.zero_le _, rfl, heap_alloc_new w _, by rw [size_madeCells], Filled.nil _ _ _, (Below.refl _ w).alloc (Nat.le_refl _) _, (Plain.refl w).alloc _ _⟩
  case round =>
    obtain ⟨i, cur, hi, rfl, hcur, hsz, hfl, hbw, hpl⟩ := hrel
    have HPL := hide hpl
    clear hpl
    have HC := hide hcur
    have HF := hide hfl
    have HBW := hide hbw
    have HSZ := hide hsz
    clear hcur hfl hbw hsz
    by_cases hlt : i < xs.length
    · have hne : xs ≠ [] := by intro e; rw [e] at hlt; simp at hlt
      obtain ⟨x, hx⟩ : ∃ x, xs[i]? = some x := ⟨xs[i], List.getElem?_eq_getElem hlt⟩
      obtain ⟨b, off, eo, -, hbl, hcs⟩ := (HM.out.later HBW.out fun _ _ h => h) hne
      subst eo
      obtain ⟨cs, hlen, hkey, hrd⟩ := hcs i x hx
      obtain ⟨v0, v1, v2, v3, v4, v5, v6, v7, v8, rfl⟩ := nine hlen
      have q0 := hkey 0 v0 rfl
      have q1 := hkey 1 v1 rfl
      have q2 := hkey 2 v2 rfl
      have q3 := hkey 3 v3 rfl
      have q4 := hkey 4 v4 rfl
      have q5 := hkey 5 v5 rfl
      have q6 := hkey 6 v6 rfl
      have q7 := hkey 7 v7 rfl
      have q8 := hkey 8 v8 rfl
      rw [Nat.add_zero] at q0
      have HX := hide hx
      have HRD := hide ((reads_later HBW.out h).2.1 x _ hrd)
      have HWT : Hid ((wts h).de x ≤ 1048576) := by
        have h1 := le_sum (wts h).de xs x (List.mem_of_getElem? hx)
        have h2 := HL.out
        unfold lw at h2
        exact (by omega : (wts h).de x ≤ 1048576)
      clear hcs hx hne hkey hlen hrd
      have hlt2 : (i : Int) < xs.length := by omega
      have hw : w.heap.size < wr.heap.size := heap_lt HC.out
      go_wp2_with fail
      refine (HE.out x _ _ HRD.out HWT.out).mono ?_
      rintro e w1 ⟨cs', rfl, hlen', hrd', hb1, hpl1⟩
      obtain ⟨y, p0, d0, p1, d1, p2, d2, p3, d3, p4, d4, rfl⟩ := de_form hrd'
      have HB1 := hide hb1
      have HP1 := hide (HPL.out.on hpl1 hb1)
      clear hpl1
      have HRD1 := hide hrd'
      have HC1 := hide ((hb1.block w.heap.size hw).trans HC.out)
      clear hb1 hrd' hlen'
      have s0 := cell_of HC1.out (i * 9)
      have s1 := cell_of HC1.out (i * 9 + 1)
      have s2 := cell_of HC1.out (i * 9 + 2)
      have s3 := cell_of HC1.out (i * 9 + 3)
      have s4 := cell_of HC1.out (i * 9 + 4)
      have s5 := cell_of HC1.out (i * 9 + 5)
      have s6 := cell_of HC1.out (i * 9 + 6)
      have s7 := cell_of HC1.out (i * 9 + 7)
      have s8 := cell_of HC1.out (i * 9 + 8)
      rw [Array.getElem?_eq_getElem (by rw [HSZ.out]; omega)] at s0 s1 s2 s3 s4 s5 s6 s7 s8
      have f0 := frozen_of HC1.out (i * 9)
      have f1 := frozen_of HC1.out (i * 9 + 1)
      have f2 := frozen_of HC1.out (i * 9 + 2)
      have f3 := frozen_of HC1.out (i * 9 + 3)
      have f4 := frozen_of HC1.out (i * 9 + 4)
      have f5 := frozen_of HC1.out (i * 9 + 5)
      have f6 := frozen_of HC1.out (i * 9 + 6)
      have f7 := frozen_of HC1.out (i * 9 + 7)
      have f8 := frozen_of HC1.out (i * 9 + 8)
      go_wp2
      refine ⟨⟨i + 1, _, by omega, by go_num, heap_set_same _ (heap_set_same _ (heap_set_same _ (heap_set_same _ (heap_set_same _ (heap_set_same _ (heap_set_same _ (heap_set_same _ (heap_set_same _ HC1.out)))))))), by simpa using HSZ.out, ?_, ?_, ((((((((HP1.out.set _ _ _).set _ _ _).set _ _ _).set _ _ _).set _ _ _).set _ _ _).set _ _ _).set _ _ _).set _ _ _⟩, by simp [intOf]; omega⟩
      · have no : ¬ FromK (w.heap.size + 1) w.heap.size := fun h => by have h2 : w.heap.size + 1 ≤ w.heap.size := h; omega
        have st := ((((((((stays_set (FromK (w.heap.size + 1)) w1 w.heap.size (i * 9) (.string x.s) no).trans (stays_set _ _ _ (i * 9 + 1) (.slice p0 x.ss.length d0) no)).trans (stays_set _ _ _ (i * 9 + 2) (.int .i64 y.k) no)).trans (stays_set _ _ _ (i * 9 + 3) (.string y.s) no)).trans (stays_set _ _ _ (i * 9 + 4) (.int .i64 y.n) no)).trans (stays_set _ _ _ (i * 9 + 5) (.slice p1 y.l.length d1) no)).trans (stays_set _ _ _ (i * 9 + 6) (.slice p2 y.ds.length d2) no)).trans (stays_set _ _ _ (i * 9 + 7) (.slice p3 y.al.length d3) no)).trans (stays_set _ _ _ (i * 9 + 8) (.slice p4 x.ds.length d4) no)
        have sw := (Stays.of (K := FromK (w.heap.size + 1)) HB1.out).trans st
        have key := HF.out.snoc (cs := [.string x.s, .slice p0 x.ss.length d0, .int .i64 y.k, .string y.s, .int .i64 y.n, .slice p1 y.l.length d1, .slice p2 y.ds.length d2, .slice p3 y.al.length d3, .slice p4 x.ds.length d4]) (reads_frame sw (fun _ h => h) h).2.1 HX.out rfl HSZ.out ((reads_frame st (fun _ h => h) h).2.1 _ _ ((reads_frame (Stays.refl _ _) (fun b (hb : wr.heap.size ≤ b) => (by show w.heap.size + 1 ≤ b; omega)) h).2.1 _ _ HRD1.out))
        exact key
      · have h1 := HBW.out.trans (HB1.out.mono HBW.out.size)
        exact ((((((((h1.setCell (Nat.le_refl _) _).setCell (Nat.le_refl _) _).setCell (Nat.le_refl _) _).setCell (Nat.le_refl _) _).setCell (Nat.le_refl _) _).setCell (Nat.le_refl _) _).setCell (Nat.le_refl _) _).setCell (Nat.le_refl _) _).setCell (Nat.le_refl _) _
    · go_wp2
      go_ret
      have hie : i = xs.length := by omega
      subst hie
      have key := HF.out
      rw [List.take_length] at key
      refine ⟨_, _, rfl, Nat.le_refl _, RowOf.frame (K := FromK w.heap.size) (key.row HC.out (Nat.le_refl _)) (Stays.refl _ _) (fun _ h => h) (fun x cs hx => ?_), HBW.out, HPL.out⟩
      exact (reads_frame (Stays.refl _ _) (fun b (hb : w.heap.size + 1 ≤ b) => (by show w.heap.size ≤ b; omega)) h).2.1 _ _ hx

theorem info_Alt : (Tryz.prog.info? 116).map (fun i => (i.zero, i.size, i.bytes)) = some (some (.agg #[.string ⟨#[]⟩, .slice none 0 0, .int .i64 0, .string ⟨#[]⟩, .int .i64 0, .slice none 0 0, .slice none 0 0, .slice none 0 0]), 8, 144) := by kernel_rfl
theorem make_Alt (n : Nat) (hn : n ≤ 1048576) (w : World) : (Instr.makeSlice 73 (.int .i64 (n : Int)) (.int .i64 (n : Int))).run Tryz.prog w = .ok (.slice (some ⟨w.heap.size, 0, none⟩) n n) (w.alloc (.cells (madeCells #[.string ⟨#[]⟩, .slice none 0 0, .int .i64 0, .string ⟨#[]⟩, .int .i64 0, .slice none 0 0, .slice none 0 0, .slice none 0 0] (n * 8)) 116)) := by
  obtain ⟨i0, hi, hz0, hz1, hz2⟩ := info_parts info_Alt
  have hr := run_make (P := Tryz.prog) w 73 116 i0 _ Tryz.underlying73 hi hz0 .i64 .i64 n n (by omega) (Int.le_refl _) (by rw [hz2]; omega) (by omega)
  rw [hz1, Int.toNat_natCast] at hr
  exact hr

set_option maxHeartbeats 800000 in
set_option maxRecDepth 100000 in
theorem toAltS_of {h : Nat} (hE : ToAl h) (xs : List Tr) (o : Option Addr) (cap : Nat) (w : World) (hl : lw (wts h).al xs ≤ 1048576) (hm : RowOf AllK w (reads AllK w h).al 8 o xs) :
    Calls Tryz.prog 89 #[.slice o xs.length cap] w fun e w' => ∃ o' c', e = .returned (.slice o' xs.length c') ∧ xs.length ≤ c' ∧ RowOf (FromK w.heap.size) w' (reads (FromK w.heap.size) w' h).al 8 o' xs ∧ Below w.heap.size w w' ∧ Plain w w' := by
  have HM := hide hm
  have HE := hide hE
  have HL := hide hl
  have hl2 : xs.length ≤ 1048576 := by unfold lw at hl; omega
  clear hm hE hl
  have hmk := make_Alt xs.length hl2
  go_enter Tryz.func89, Tryz.ntmps89
  go_wp2
  clear hmk
  go_loopw [4] (fun t4 wr => ∃ (i : Nat) (cur : Array Value), i ≤ xs.length ∧ t4 = .int .i64 i ∧ wr.heap[w.heap.size]? = some (.cells cur 116 (0, 0)) ∧ cur.size = xs.length * 8 ∧ Filled (reads (FromK (w.heap.size + 1)) wr h).al 8 cur (xs.take i) ∧ Below w.heap.size w wr ∧ Plain w wr) (fun t4 _ => xs.length - (intOf t4).toNat)
  case atStart => exact ⟨0, _, Nat.zero_le _, rfl, heap_alloc_new w _, by rw [size_madeCells], Filled.nil _ _ _, (Below.refl _ w).alloc (Nat.le_refl _) _, (Plain.refl w).alloc _ _⟩
  case round =>
    obtain ⟨i, cur, hi, rfl, hcur, hsz, hfl, hbw, hpl⟩ := hrel
    have HPL := hide hpl
    clear hpl
    have HC := hide hcur
    have HF := hide hfl
    have HBW := hide hbw
    have HSZ := hide hsz
    clear hcur hfl hbw hsz
    by_cases hlt : i < xs.length
    · have hne : xs ≠ [] := by intro e; rw [e] at hlt; simp at hlt
      obtain ⟨x, hx⟩ : ∃ x, xs[i]? = some x := ⟨xs[i], List.getElem?_eq_getElem hlt⟩
      obtain ⟨b, off, eo, -, hbl, hcs⟩ := (HM.out.later HBW.out fun _ _ h => h) hne
      subst eo
      obtain ⟨cs, hlen, hkey, hrd⟩ := hcs i x hx
      obtain ⟨v0, v1, v2, v3, v4, v5, v6, v7, rfl⟩ := eight hlen
      have q0 := hkey 0 v0 rfl
      have q1 := hkey 1 v1 rfl
      have q2 := hkey 2 v2 rfl
      have q3 := hkey 3 v3 rfl
      have q4 := hkey 4 v4 rfl
      have q5 := hkey 5 v5 rfl
      have q6 := hkey 6 v6 rfl
      have q7 := hkey 7 v7 rfl
      rw [Nat.add_zero] at q0
      have HX := hide hx
      have HRD := hide ((reads_later HBW.out h).2.2 x _ hrd)
      have HWT : Hid ((wts h).al x ≤ 1048576) := by
        have h1 := le_sum (wts h).al xs x (List.mem_of_getElem? hx)
        have h2 := HL.out
        unfold lw at h2
        exact (by omega : (wts h).al x ≤ 1048576)
      clear hcs hx hne hkey hlen hrd
      have hlt2 : (i : Int) < xs.length := by omega
      have hw : w.heap.size < wr.heap.size := heap_lt HC.out
      go_wp2_with fail
      refine (HE.out x _ _ HRD.out HWT.out).mono ?_
      rintro e w1 ⟨cs', rfl, hlen', hrd', hb1, hpl1⟩
      obtain ⟨y, p0, d0, p1, d1, p2, d2, p3, d3, rfl⟩ := al_form hrd'
      have HB1 := hide hb1
      have HP1 := hide (HPL.out.on hpl1 hb1)
      clear hpl1
      have HRD1 := hide hrd'
      have HC1 := hide ((hb1.block w.heap.size hw).trans HC.out)
      clear hb1 hrd' hlen'
      have s0 := cell_of HC1.out (i * 8)
      have s1 := cell_of HC1.out (i * 8 + 1)
      have s2 := cell_of HC1.out (i * 8 + 2)
      have s3 := cell_of HC1.out (i * 8 + 3)
      have s4 := cell_of HC1.out (i * 8 + 4)
      have s5 := cell_of HC1.out (i * 8 + 5)
      have s6 := cell_of HC1.out (i * 8 + 6)
      have s7 := cell_of HC1.out (i * 8 + 7)
      rw [Array.getElem?_eq_getElem (by rw [HSZ.out]; omega)] at s0 s1 s2 s3 s4 s5 s6 s7
      have f0 := frozen_of HC1.out (i * 8)
      have f1 := frozen_of HC1.out (i * 8 + 1)
      have f2 := frozen_of HC1.out (i * 8 + 2)
      have f3 := frozen_of HC1.out (i * 8 + 3)
      have f4 := frozen_of HC1.out (i * 8 + 4)
      have f5 := frozen_of HC1.out (i * 8 + 5)
      have f6 := frozen_of HC1.out (i * 8 + 6)
      have f7 := frozen_of HC1.out (i * 8 + 7)
      go_wp2
      refine ⟨⟨i + 1, _, by omega, by go_num, heap_set_same _ (heap_set_same _ (heap_set_same _ (heap_set_same _ (heap_set_same _ (heap_set_same _ (heap_set_same _ (heap_set_same _ HC1.out))))))), by simpa using HSZ.out, ?_, ?_, (((((((HP1.out.set _ _ _).set _ _ _).set _ _ _).set _ _ _).set _ _ _).set _ _ _).set _ _ _).set _ _ _⟩, by simp [intOf]; omega⟩
      · have no : ¬ FromK (w.heap.size + 1) w.heap.size := fun h => by have h2 : w.heap.size + 1 ≤ w.heap.size := h; omega
        have st := (((((((stays_set (FromK (w.heap.size + 1)) w1 w.heap.size (i * 8) (.string x.s) no).trans (stays_set _ _ _ (i * 8 + 1) (.slice p0 x.ss.length d0) no)).trans (stays_set _ _ _ (i * 8 + 2) (.int .i64 y.k) no)).trans (stays_set _ _ _ (i * 8 + 3) (.string y.s) no)).trans (stays_set _ _ _ (i * 8 + 4) (.int .i64 y.n) no)).trans (stays_set _ _ _ (i * 8 + 5) (.slice p1 y.l.length d1) no)).trans (stays_set _ _ _ (i * 8 + 6) (.slice p2 y.ds.length d2) no)).trans (stays_set _ _ _ (i * 8 + 7) (.slice p3 y.al.length d3) no)
        have sw := (Stays.of (K := FromK (w.heap.size + 1)) HB1.out).trans st
        have key := HF.out.snoc (cs := [.string x.s, .slice p0 x.ss.length d0, .int .i64 y.k, .string y.s, .int .i64 y.n, .slice p1 y.l.length d1, .slice p2 y.ds.length d2, .slice p3 y.al.length d3]) (reads_frame sw (fun _ h => h) h).2.2 HX.out rfl HSZ.out ((reads_frame st (fun _ h => h) h).2.2 _ _ ((reads_frame (Stays.refl _ _) (fun b (hb : wr.heap.size ≤ b) => (by show w.heap.size + 1 ≤ b; omega)) h).2.2 _ _ HRD1.out))
        exact key
      · have h1 := HBW.out.trans (HB1.out.mono HBW.out.size)
        exact (((((((h1.setCell (Nat.le_refl _) _).setCell (Nat.le_refl _) _).setCell (Nat.le_refl _) _).setCell (Nat.le_refl _) _).setCell (Nat.le_refl _) _).setCell (Nat.le_refl _) _).setCell (Nat.le_refl _) _).setCell (Nat.le_refl _) _
    · go_wp2
      go_ret
      have hie : i = xs.length := by omega
      subst hie
      have key := HF.out
      rw [List.take_length] at key
      refine ⟨_, _, rfl, Nat.le_refl _, RowOf.frame (K := FromK w.heap.size) (key.row HC.out (Nat.le_refl _)) (Stays.refl _ _) (fun _ h => h) (fun x cs hx => ?_), HBW.out, HPL.out⟩
      exact (reads_frame (Stays.refl _ _) (fun b (hb : w.heap.size + 1 ≤ b) => (by show w.heap.size ≤ b; omega)) h).2.2 _ _ hx

end Go.Proofs.YtlaeenfeajkcfalGreat
