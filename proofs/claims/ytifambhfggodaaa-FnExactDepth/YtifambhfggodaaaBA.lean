/- Rows of names that a call owns; the model's l1Has, l6Put, l6Join. -/
import Derived.Test.YtifambhfggodaaaXA
import Derived.Test.YtifambhfggodaaaQC
import Derived.Laws.OwnMore
import Derived.Lib.AppendZeros
import Derived.Deep.DeepCutAuto
import Derived.Deep.CutBlock
namespace Go.Proofs.Ytifambhfggodaaa.Nm
open Go.ChangeShapes Go.WideShapes Go.ChangeAt Go.RowKit

theorem less_eq : ∀ (x y : List UInt8), Op.bytesLess x y = decide (x < y)
  | [], [] => by simp [Op.bytesLess]
  | _ :: _, [] => by simp [Op.bytesLess]
  | [], _ :: _ => by simp [Op.bytesLess]
  | a :: x, b :: y => by
    rw [Op.bytesLess, less_eq x y]
    simp only [List.cons_lt_cons_iff]
    by_cases h1 : a < b <;> by_cases h2 : a = b <;> by_cases h3 : x < y <;> simp [h1, h2, h3]
theorem toList_inj {a b : ByteArray} (h : a.toList = b.toList) : a = b := by
  rw [ByteArray.toList_eq, ByteArray.toList_eq] at h
  cases a
  cases b
  exact congrArg ByteArray.mk (Array.toList_inj.1 h)
theorem toList_beq (a b : ByteArray) : (a.toList == b.toList) = true ↔ a = b := by
  rw [beq_iff_eq]
  exact ⟨toList_inj, fun h => by rw [h]⟩
/-- What no name is: the stroke below. -/
def und : ByteArray := ⟨#[95]⟩
theorem und_list : und.toList = [95] := by kernel_rfl
def LtS (a b : ByteArray) : Prop := a.toList < b.toList
def Asc (l : List ByteArray) : Prop := l.Pairwise LtS
theorem ltS_trans {a b c : ByteArray} (h : LtS a b) (k : LtS b c) : LtS a c := List.lt_trans h k
theorem ltS_irrefl (a : ByteArray) : ¬ LtS a a := List.lt_irrefl _
theorem ltS_total {a b : ByteArray} (h : ¬ LtS a b) (hne : a ≠ b) : LtS b a := by
  unfold LtS at *
  rcases List.le_total a.toList b.toList with h1 | h1
  · rcases Classical.em (a.toList < b.toList) with h2 | h2
    · exact absurd h2 h
    · exact absurd (toList_inj (List.le_antisymm h1 (List.not_lt.1 h2))) hne
  · rcases Classical.em (b.toList < a.toList) with h2 | h2
    · exact h2
    · exact absurd (toList_inj (List.le_antisymm (List.not_lt.1 h2) h1)) hne
theorem asc_ext : ∀ {l m : List ByteArray}, Asc l → Asc m → (∀ x, x ∈ l ↔ x ∈ m) → l = m := by
  intro l
  induction l with
  | nil =>
    intro m _ _ h
    cases m with
    | nil => rfl
    | cons b m => exact absurd ((h b).2 (by simp)) (by simp)
  | cons a l ih =>
    intro m h1 h2 h
    cases m with
    | nil => exact absurd ((h a).1 (by simp)) (by simp)
    | cons b m =>
      obtain ⟨ha, hl⟩ := List.pairwise_cons.1 h1
      obtain ⟨hb, hm⟩ := List.pairwise_cons.1 h2
      have hab : a = b := by
        rcases List.mem_cons.1 ((h a).1 (by simp)) with e | e
        · exact e
        · rcases List.mem_cons.1 ((h b).2 (by simp)) with e2 | e2
          · exact e2.symm
          · exact absurd (ltS_trans (ha b e2) (hb a e)) (ltS_irrefl a)
      subst hab
      rw [ih hl hm fun x => ?_]
      constructor
      · intro hx
        rcases List.mem_cons.1 ((h x).1 (by simp [hx])) with e | e
        · exact absurd (ha x hx) (e ▸ ltS_irrefl x)
        · exact e
      · intro hx
        rcases List.mem_cons.1 ((h x).2 (by simp [hx])) with e | e
        · exact absurd (hb x hx) (e ▸ ltS_irrefl x)
        · exact e

/-- A row of names that is owned. -/
def NRow (B : Nat) (w : World) (v : Value) (l : List ByteArray) : Prop := w.ownsRow B 9 1 v l.length (l.map Value.string) ∧ (∀ s ∈ l, s.size ≤ maxLen) ∧ l.length ≤ maxLen
theorem str_info : (Try.prog.info? 9).map (fun i => (i.zero, i.size, i.bytes)) = some (some (.string ⟨#[]⟩), 1, 16) := by kernel_rfl
theorem NRow.rowOf {B : Nat} {w : World} {v : Value} {l : List ByteArray} (h : NRow B w v l) : ∃ o cap, v = .slice o l.length cap ∧ Fits l.length cap ∧ RowOf (fun b => B ≤ b ∧ v.ownBlock = some b) w strR 1 o l := by
  obtain ⟨⟨hl, hc⟩, hs, hm⟩ := h
  rcases hc with ⟨rfl, h0⟩ | ⟨g, cap, cur, rfl, hb, hg, hn, hcap, hsz, htk⟩
  · have hts : l = [] := List.length_eq_zero_iff.1 h0
    subst hts
    exact ⟨none, 0, rfl, ⟨hm, Nat.le_refl _⟩, fun h => absurd rfl h⟩
  · refine ⟨some ⟨g, 0, none⟩, cap, rfl, ⟨hm, hn⟩, fun _ => ⟨g, 0, rfl, ⟨hb, rfl⟩, heap_lt hg, fun i t ht => ?_⟩⟩
    have hi : i < l.length := (List.getElem?_eq_some_iff.1 ht).1
    refine ⟨[.string t], rfl, fun j u hu => ?_, rfl, hs t (List.mem_of_getElem? ht)⟩
    have hj : j = 0 := by
      have := (List.getElem?_eq_some_iff.1 hu).1
      simpa using this
    subst hj
    have hu2 : Value.string t = u := by simpa using hu
    subst hu2
    have e0 : 0 + i * 1 + 0 = i := by omega
    rw [e0]
    exact owns_cell hg htk i (by omega) _ (by rw [List.getElem?_map, ht]; rfl)
theorem NRow.block {B : Nat} {w w' : World} {v : Value} {l : List ByteArray} (h : NRow B w v l) (hb : ∀ g, v.ownBlock = some g → w'.heap[g]? = w.heap[g]?) : NRow B w' v l := ⟨owns_block h.1 hb, h.2⟩
theorem NRow.lt {B : Nat} {w : World} {v : Value} {l : List ByteArray} (h : NRow B w v l) : ∀ g, v.ownBlock = some g → g < w.heap.size ∧ B ≤ g := owns_lt h.1
theorem NRow.later {B : Nat} {w w' : World} {v : Value} {l : List ByteArray} (h : NRow B w v l) (hb : Below w.heap.size w w') : NRow B w' v l := h.block fun g hg => hb.block g (h.lt g hg).1
theorem NRow.base {B B' : Nat} {w : World} {v : Value} {l : List ByteArray} (h : NRow B w v l) (hb : B' ≤ B) : NRow B' w v l := ⟨owns_base h.1 fun g hg => Nat.le_trans hb (h.lt g hg).2, h.2⟩
theorem NRow.empty (w : World) : NRow w.heap.size (w.alloc (.cells #[] 9)) (.slice (some ⟨w.heap.size, 0, none⟩) 0 0) [] := ⟨owns_empty w 9 1, fun s hs => (by cases hs), Nat.zero_le _⟩
/-- An append onto an owned row, whatever the other one is. -/
theorem app_run {P : Program} {T E : TypeId} {i0 : TypeInfo} {z : Value} {sz bytes : Nat} (hT : P.underlying T = some (.slice E)) (hi : P.info? E = some i0) (hz : i0.zero = some z) (hsz : i0.size = sz) (hby : i0.bytes = bytes) (hzs : z.cells.size = sz) (h0 : 0 < sz) (hb : bytes ≤ 1000)
    {B : Nat} {w : World} {v : Value} {n : Nat} {xs : List Value} (h : w.ownsRow B E sz v n xs) (hB : B ≤ w.heap.size) (o : Option Addr) (m c : Nat) (news : List Value) (hl : news.length = m * sz) (ho : m ≠ 0 → ∃ b off, o = some ⟨b, off, none⟩ ∧ ∀ j u, news[j]? = some u → w.cell? ⟨b, off + j, none⟩ = some u) (h1 : ∀ u ∈ news, u.oneCell' = true)
    (hn : n + m ≤ 100000000) (ty : TypeId) :
    ∃ v' w', (Builtin.append_ #[T, T] ty #[v, .slice o m c]).run P w = .ok v' w' ∧ w'.ownsRow B E sz v' (n + m) (xs ++ news) ∧ w.grownBy w' v.ownBlock ∧ (v'.ownBlock = v.ownBlock ∨ v'.ownBlock = some w.heap.size) := by
  have hbt : (n + m) * bytes ≤ 140737488355328 := by
    have h5 : (n + m) * bytes ≤ 100000000 * 1000 := Nat.mul_le_mul hn hb
    omega
  have key : ∀ a : Addr, (∀ j u, news[j]? = some u → w.cell? (a.add j) = some u) → ∃ v' w', (Builtin.append_ #[T, T] ty #[v, .slice (some a) m c]).run P w = .ok v' w' ∧ w'.ownsRow B E sz v' (n + m) (xs ++ news) ∧ w.grownBy w' v.ownBlock ∧ (v'.ownBlock = v.ownBlock ∨ v'.ownBlock = some w.heap.size) := fun a ha => by
    obtain ⟨v', w', hr, hown, hgr, -, hbk⟩ := run_append_own_at (P := P) w B T ty E i0 z sz bytes hT hi hz hsz hby hzs h0 v n xs h a m c news hl ha h1 (by unfold maxLen; omega) hbt hB
    exact ⟨v', w', hr, hown, hgr, hbk⟩
  by_cases hm : m = 0
  · subst hm
    have hnil : news = [] := List.eq_nil_of_length_eq_zero (by simpa using hl)
    subst hnil
    cases o with
    | some a => exact key a fun j u hu => by simp at hu
    | none =>
      have hr : (Builtin.append_ #[T, T] ty #[v, .slice none 0 c]).run P w = .ok v w := by
        rcases h.2 with ⟨rfl, rfl⟩ | ⟨g, cap, cur, rfl, _, _, hnc, _⟩
        · simp [Builtin.append_, run_underlying hT, sizeOf, typeInfo, hi, Builtin.lenOf, Builtin.firstCells]
        · simp [Builtin.append_, run_underlying hT, sizeOf, typeInfo, hi, Builtin.lenOf, Builtin.firstCells, hnc, storeCells]
      refine ⟨v, w, hr, by simpa using h, ⟨rfl, rfl, rfl, Nat.le_refl _, fun _ _ _ => rfl⟩, .inl rfl⟩
  · obtain ⟨b, off, rfl, hc⟩ := ho hm
    exact key _ fun j u hu => by
      have h9 := hc j u hu
      unfold Addr.add
      split
      · rename_i e0
        rw [e0] at h9
        exact h9
      · simpa using h9
theorem one_row {w : World} {b : Nat} {s : ByteArray} {e : TypeId} {fz : Nat × Nat} (h : w.heap[b]? = some (.cells #[.string s] e fz)) (hs : s.size ≤ maxLen) : RowOf (fun _ => True) w strR 1 (some ⟨b, 0, none⟩) [s] := by
  intro _
  refine ⟨b, 0, rfl, trivial, heap_lt h, fun i x hx => ?_⟩
  have hi : i = 0 := by
    have := (List.getElem?_eq_some_iff.1 hx).1
    simpa using this
  subst hi
  have hx2 : s = x := by simpa using hx
  subst hx2
  refine ⟨[.string s], rfl, fun j u hu => ?_, rfl, hs⟩
  have hj : j = 0 := by
    have := (List.getElem?_eq_some_iff.1 hu).1
    simpa using this
  subst hj
  rw [cell_of h]
  simpa using hu
theorem below_grown {w w' : World} {row : Option Nat} {B : Nat} (h : w.grownBy w' row) (hB : B ≤ w.heap.size) (hr : ∀ k, row = some k → B ≤ k) : Below B w w' :=
  ⟨h.os, h.tape, h.output, h.size, fun k hk => h.block k (by omega) fun e => by have := hr k e.symm; omega⟩

def hasS (l : List ByteArray) (s : ByteArray) : Bool := l.any fun t => t.toList == s.toList
theorem hasS_mem {l : List ByteArray} {s : ByteArray} : hasS l s = true ↔ s ∈ l := by
  unfold hasS
  rw [List.any_eq_true]
  constructor
  · rintro ⟨t, ht, h⟩
    have := (toList_beq t s).1 h
    exact this ▸ ht
  · exact fun h => ⟨s, h, by simp⟩
theorem hasS_yes (ss : List ByteArray) (s : ByteArray) (k : Nat) (h : k < ss.length) (hk : (ss[k].toList == s.toList) = true) : hasS ss s = true := by
  unfold hasS
  rw [List.any_eq_true]
  exact ⟨ss[k], List.getElem_mem h, hk⟩
theorem hasS_step (ss : List ByteArray) (s : ByteArray) (k : Nat) (h : k < ss.length) (h0 : hasS (ss.take k) s = false) (hk : (ss[k].toList == s.toList) = false) : hasS (ss.take (k + 1)) s = false := by
  unfold hasS at *
  rw [List.take_succ_eq_append_getElem h, List.any_append, h0]
  simpa using hk
end Go.Proofs.Ytifambhfggodaaa.Nm
