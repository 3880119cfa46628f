/- What a margin holds of the memory. -/
import Derived.Test.YtfcgfinohhhpiaiLP
namespace Go.Proofs.Ytfcgfinohhhpiai
open Go.RowKit

def intRow (st : List Int) : List Value := st.reverse.map fun n => .int .i64 n
theorem intRow_cons (n : Int) (st : List Int) : intRow (n :: st) = intRow st ++ [.int .i64 n] := by
  unfold intRow
  rw [List.reverse_cons, List.map_append]
  rfl
theorem intRow_length (st : List Int) : (intRow st).length = st.length := by unfold intRow; rw [List.length_map, List.length_reverse]
theorem intRow_top (n : Int) (st : List Int) : (intRow (n :: st))[st.length]? = some (.int .i64 n) := by
  rw [intRow_cons, List.getElem?_append_right (by rw [intRow_length]; exact Nat.le_refl _), intRow_length, Nat.sub_self]
  rfl

structure LayMem (w : World) (K : Nat → Prop) (g : Nat) (vo vs : Value) (out : List TokZ) (st : List Int) : Prop where
  out : w.ownsRow 0 70 4 vo out.length (rowZ out)
  st : w.ownsRow 0 3 1 vs st.length (intRow st)
  og : vo.ownBlock ≠ some g
  sg : vs.ownBlock ≠ some g
  os : vo.ownBlock = none ∨ vo.ownBlock ≠ vs.ownBlock
  kg : ¬ K g
  ko : ∀ k, vo.ownBlock = some k → ¬ K k
  ks : ∀ k, vs.ownBlock = some k → ¬ K k
  kw : ∀ k, K k → k < w.heap.size
  gw : g < w.heap.size

theorem LayMem.same {w w' : World} {K : Nat → Prop} {g : Nat} {vo vs : Value} {out : List TokZ} {st : List Int} (h : LayMem w K g vo vs out st) (hs : w.heap.size ≤ w'.heap.size)
    (hb : ∀ k, k < w.heap.size → k ≠ g → w'.heap[k]? = w.heap[k]?) : LayMem w' K g vo vs out st where
  out := owns_block h.out fun k hk => hb k (owns_lt h.out k hk).1 fun e => h.og (e ▸ hk)
  st := owns_block h.st fun k hk => hb k (owns_lt h.st k hk).1 fun e => h.sg (e ▸ hk)
  og := h.og
  sg := h.sg
  os := h.os
  kg := h.kg
  ko := h.ko
  ks := h.ks
  kw := fun k hk => Nat.lt_of_lt_of_le (h.kw k hk) hs
  gw := Nat.lt_of_lt_of_le h.gw hs
theorem LayMem.alloc {w : World} {K : Nat → Prop} {g : Nat} {vo vs : Value} {out : List TokZ} {st : List Int} (h : LayMem w K g vo vs out st) (o : Obj) : LayMem (w.alloc o) K g vo vs out st :=
  h.same (by simp) fun k hk _ => Below.heap_alloc w o k hk
theorem LayMem.later {w w' : World} {K : Nat → Prop} {g : Nat} {vo vs : Value} {out : List TokZ} {st : List Int} (h : LayMem w K g vo vs out st) (hb : Below w.heap.size w w') : LayMem w' K g vo vs out st :=
  h.same hb.size fun k hk _ => hb.block k hk
theorem LayMem.set {w : World} {K : Nat → Prop} {g : Nat} {vo vs : Value} {out : List TokZ} {st : List Int} (h : LayMem w K g vo vs out st) (j : Nat) (u : Value) : LayMem (w.setCell ⟨g, j, none⟩ u) K g vo vs out st :=
  h.same (by simp) fun k _ hk => heap_set_other u hk
/-- More is kept: blocks that are not the margin's. -/
theorem LayMem.more {w : World} {K K' : Nat → Prop} {g : Nat} {vo vs : Value} {out : List TokZ} {st : List Int} (h : LayMem w K g vo vs out st) (hw : ∀ k, K' k → k < w.heap.size)
    (hg : ¬ K' g) (ho : ∀ k, vo.ownBlock = some k → ¬ K' k) (hs : ∀ k, vs.ownBlock = some k → ¬ K' k) : LayMem w K' g vo vs out st :=
  ⟨h.out, h.st, h.og, h.sg, h.os, hg, ho, hs, hw, h.gw⟩
theorem LayMem.put {w w2 : World} {K : Nat → Prop} {g : Nat} {vo vo' vs : Value} {out : List TokZ} {st : List Int} {t : TokZ} (h : LayMem w K g vo vs out st)
    (hown : w2.ownsRow 0 70 4 vo' (out.length + 1) (rowZ out ++ cellsZ t)) (hg : w.grownBy w2 vo.ownBlock) (hb : vo'.ownBlock = vo.ownBlock ∨ vo'.ownBlock = some w.heap.size) :
    LayMem w2 K g vo' vs (out ++ [t]) st ∧ Keeps K w w2 ∧ w2.heap[g]? = w.heap[g]? := by
  have hgw := h.gw
  refine ⟨⟨?_, h.st.kept hg ?_, ?_, h.sg, ?_, h.kg, ?_, h.ks, fun k hk => Nat.lt_of_lt_of_le (h.kw k hk) hg.size, Nat.lt_of_lt_of_le h.gw hg.size⟩, keeps_grown hg h.kw h.ko, hg.block g h.gw fun e => h.og e.symm⟩
  · rw [List.length_append, rowZ_snoc]
    exact hown
  · cases hvs : vs.ownBlock with
    | none => exact Or.inl rfl
    | some k =>
      right
      rcases h.os with e | e
      · rw [e]; intro e2; cases e2
      · rw [hvs] at e; exact fun e2 => e e2.symm
  · rcases hb with e | e
    · rw [e]; exact h.og
    · rw [e]; intro e2; have := Option.some.inj e2; omega
  · rcases hb with e | e
    · rw [e]; exact h.os
    · right
      rw [e]
      intro e2
      have := (owns_lt h.st _ e2.symm).1
      omega
  · intro k hk hK
    rcases hb with e | e
    · exact h.ko k (e ▸ hk) hK
    · rw [e] at hk
      have := h.kw k hK
      have := Option.some.inj hk
      omega
theorem LayMem.push {w w2 : World} {K : Nat → Prop} {g : Nat} {vo vs vs' : Value} {out : List TokZ} {st : List Int} {n : Int} (h : LayMem w K g vo vs out st)
    (hown : w2.ownsRow 0 3 1 vs' (st.length + 1) (intRow st ++ [.int .i64 n])) (hg : w.grownBy w2 vs.ownBlock) (hb : vs'.ownBlock = vs.ownBlock ∨ vs'.ownBlock = some w.heap.size) :
    LayMem w2 K g vo vs' out (n :: st) ∧ Keeps K w w2 ∧ w2.heap[g]? = w.heap[g]? := by
  have hgw := h.gw
  refine ⟨⟨h.out.kept hg h.os, ?_, h.og, ?_, ?_, h.kg, h.ko, ?_, fun k hk => Nat.lt_of_lt_of_le (h.kw k hk) hg.size, Nat.lt_of_lt_of_le h.gw hg.size⟩, keeps_grown hg h.kw h.ks, hg.block g h.gw fun e => h.sg e.symm⟩
  · rw [intRow_cons]
    exact hown
  · rcases hb with e | e
    · rw [e]; exact h.sg
    · rw [e]; intro e2; have := Option.some.inj e2; omega
  · rcases hb with e | e
    · rw [e]; exact h.os
    · right
      rw [e]
      intro e2
      have := (owns_lt h.out _ e2).1
      omega
  · intro k hk hK
    rcases hb with e | e
    · exact h.ks k (e ▸ hk) hK
    · rw [e] at hk
      have := h.kw k hK
      have := Option.some.inj hk
      omega
/-- A stack that is not empty. -/
theorem LayMem.top {w : World} {K : Nat → Prop} {g : Nat} {vo vs : Value} {out : List TokZ} {st : List Int} {n : Int} (h : LayMem w K g vo vs out (n :: st)) :
    ∃ b cap, vs = .slice (some ⟨b, 0, none⟩) (st.length + 1) cap ∧ st.length + 1 ≤ cap ∧ cap ≤ maxLen ∧ w.cell? ⟨b, st.length, none⟩ = some (.int .i64 n) ∧ b < w.heap.size ∧ (∀ j u, (intRow st)[j]? = some u → w.cell? ⟨b, j, none⟩ = some u) ∧ LayMem w K g vo (.slice (some ⟨b, 0, none⟩) st.length cap) out st := by
  obtain ⟨hl, hc⟩ := h.st
  rcases hc with ⟨_, h0⟩ | ⟨b, cap, cur, hv, hb, hg, hn, hcap, hsz, htk⟩
  · cases h0
  · have htk2 : cur.toList.take (st.length * 1) = intRow st := by
      have h1 : (cur.toList.take ((st.length + 1) * 1)).take st.length = (intRow (n :: st)).take st.length := congrArg _ htk
      rw [List.take_take, intRow_cons, List.take_left' (intRow_length st), Nat.min_eq_left (by omega)] at h1
      rw [Nat.mul_one]
      exact h1
    have hn2 : st.length + 1 ≤ cap := hn
    refine ⟨b, cap, hv, hn2, hcap, ?_, heap_lt hg, fun j u hj => ?_, ?_⟩
    · exact owns_cell hg htk st.length (by rw [List.length_cons]; omega) _ (intRow_top n st)
    · have hlt : j < st.length := by
        have := (List.getElem?_eq_some_iff.1 hj).1
        rwa [intRow_length] at this
      exact owns_cell hg htk2 j (by omega) u hj
    · subst hv
      refine ⟨h.out, ⟨by rw [intRow_length, Nat.mul_one], Or.inr ⟨b, cap, cur, rfl, hb, hg, by omega, hcap, hsz, htk2⟩⟩, h.og, ?_, ?_, h.kg, h.ko, ?_, h.kw, h.gw⟩
      · exact h.sg
      · exact h.os
      · exact h.ks
/-- A stack that lies in new memory. -/
theorem LayMem.anew {w w2 : World} {K : Nat → Prop} {g : Nat} {vo vs vs' : Value} {out : List TokZ} {st st' : List Int} (h : LayMem w K g vo vs out st)
    (hown : w2.ownsRow w.heap.size 3 1 vs' st'.length (intRow st')) (hg : Below w.heap.size w w2) : LayMem w2 K g vo vs' out st' ∧ Keeps K w w2 ∧ w2.heap[g]? = w.heap[g]? := by
  have h2 := h.later hg
  have hgw := h.gw
  refine ⟨⟨h2.out, owns_base hown fun _ _ => Nat.zero_le _, h2.og, ?_, ?_, h2.kg, h2.ko, ?_, h2.kw, h2.gw⟩, keeps_of hg h.kw, hg.block g hgw⟩
  · intro e
    have := (owns_lt hown g e).2
    omega
  · cases ho : vo.ownBlock with
    | none => exact Or.inl rfl
    | some k =>
      right
      intro e
      have h1 := (owns_lt hown k e.symm).2
      have h3 := (owns_lt h.out k ho).1
      omega
  · intro k hk hK
    have h1 := (owns_lt hown k hk).2
    have h3 := h.kw k hK
    omega
theorem LayMem.none_top {w : World} {K : Nat → Prop} {g : Nat} {vo vs : Value} {out : List TokZ} {st : List Int} (h : LayMem w K g vo vs out st) : ∃ o cap, vs = .slice o st.length cap := owns_form h.st

/-- The model's margin. -/
def SpecAt (w : World) (K : Nat → Prop) (g : Nat) (out : List TokZ) (st : List Int) (wait bad : Bool) : Prop :=
  ∃ vo vs, w.heap[g]? = some (.cells #[vo, vs, .bool wait, .bool bad] 68 (0, 0)) ∧ LayMem w K g vo vs out st
/-- The program's margin. -/
def ImplAt (w : World) (K : Nat → Prop) (g : Nat) (out : List TokZ) (st : List Int) (wait : Bool) (line : Int) : Prop :=
  ∃ vo vs, w.heap[g]? = some (.cells #[vs, .bool wait, .int .i64 line, vo] 73 (0, 0)) ∧ LayMem w K g vo vs out st
end Go.Proofs.Ytfcgfinohhhpiai
