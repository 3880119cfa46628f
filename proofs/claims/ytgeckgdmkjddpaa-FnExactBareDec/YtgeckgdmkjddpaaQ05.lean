/- Made of RC, QC, BA. -/
import Derived.Test.YtgeckgdmkjddpaaRB
import Derived.Test.YtgeckgdmkjddpaaQ00
import Derived.Deep.QuietTactic
import Derived.BigQuiet
import Derived.Lib.OthersKept
import Derived.Laws.OwnMore
import Derived.Lib.AppendZeros
import Derived.Deep.DeepCutAuto
import Derived.Deep.CutBlock
namespace Go.Proofs.Ytgeckgdmkjddpaa.Rd
open Go.ChangeShapes Go.WideShapes Go.ChangeAt Go.RowKit

/-- Blocks, no two alike, from s on and ahead of u. -/
def InR (s u : Nat) (bs : List Nat) : Prop := bs.Nodup ∧ ∀ b ∈ bs, s ≤ b ∧ b < u
theorem InR.nil (s u : Nat) : InR s u [] := ⟨List.nodup_nil, fun b hb => (by cases hb)⟩
theorem InR.wide {s u s' u' : Nat} {bs : List Nat} (h : InR s u bs) (hs : s' ≤ s) (hu : u ≤ u') : InR s' u' bs := ⟨h.1, fun b hb => by have := h.2 b hb; omega⟩
theorem InR.app {s u v t : Nat} {a b : List Nat} (h : InR s u a) (k : InR v t b) (huv : u ≤ v) (hs : s ≤ v) (ht : u ≤ t) : InR s t (a ++ b) := by
  refine ⟨List.nodup_append.2 ⟨h.1, k.1, fun x hx y hy e => ?_⟩, fun x hx => ?_⟩
  · have h1 := h.2 x hx
    have h2 := k.2 y hy
    omega
  · rcases List.mem_append.1 hx with hx | hx
    · have := h.2 x hx; omega
    · have := k.2 x hx; omega
theorem InR.one {s u b : Nat} (h1 : s ≤ b) (h2 : b < u) : InR s u [b] := ⟨by simp, fun x hx => by rw [List.mem_singleton] at hx; omega⟩
theorem InR.comm {s u : Nat} {a b : List Nat} (h : InR s u (a ++ b)) : InR s u (b ++ a) := by
  refine ⟨?_, fun x hx => h.2 x (List.mem_append.2 (List.mem_append.1 hx).symm)⟩
  obtain ⟨h1, h2, h3⟩ := List.nodup_append.1 h.1
  exact List.nodup_append.2 ⟨h2, h1, fun x hx y hy e => h3 y hy x hx e.symm⟩
theorem InR.left {s u : Nat} {a b : List Nat} (h : InR s u (a ++ b)) : InR s u a := ⟨(List.nodup_append.1 h.1).1, fun x hx => h.2 x (List.mem_append_left _ hx)⟩
theorem InR.right {s u : Nat} {a b : List Nat} (h : InR s u (a ++ b)) : InR s u b := ⟨(List.nodup_append.1 h.1).2.1, fun x hx => h.2 x (List.mem_append_right _ hx)⟩

/-- A tree of a kind (0 an expression, 1 a definition, 2 an alternative) in blocks from s on, ahead of u. -/
def TreeT (w : World) (s u h i : Nat) (x : Tr) (cs : List Value) : Prop := ∃ bs, sp w h i x cs bs ∧ InR s u bs
def RowT (w : World) (s u h i : Nat) (v : Value) (xs : List Tr) : Prop := ∃ bs, RowS w (sp w h i) (tyK i) (lenK i) v xs bs ∧ InR s u bs
def StrT (w : World) (s u : Nat) (v : Value) (ss : List ByteArray) : Prop := ∃ bs, RowS w strS 9 1 v ss bs ∧ InR s u bs
theorem TreeT.up {w : World} {s u s' u' h h' i : Nat} {x : Tr} {cs : List Value} (k : TreeT w s u h i x cs) (hs : s' ≤ s) (hu : u ≤ u') (hh : h ≤ h') : TreeT w s' u' h' i x cs := by
  obtain ⟨bs, k1, k2⟩ := k
  exact ⟨bs, sp_up hh k1, k2.wide hs hu⟩
theorem RowT.up {w : World} {s u s' u' h h' i : Nat} {v : Value} {xs : List Tr} (k : RowT w s u h i v xs) (hs : s' ≤ s) (hu : u ≤ u') (hh : h ≤ h') : RowT w s' u' h' i v xs := by
  obtain ⟨bs, k1, k2⟩ := k
  exact ⟨bs, k1.frame (fun _ _ => rfl) fun _ _ _ _ k => sp_up hh k, k2.wide hs hu⟩
theorem StrT.up {w : World} {s u s' u' : Nat} {v : Value} {xs : List ByteArray} (k : StrT w s u v xs) (hs : s' ≤ s) (hu : u ≤ u') : StrT w s' u' v xs := by
  obtain ⟨bs, k1, k2⟩ := k
  exact ⟨bs, k1, k2.wide hs hu⟩
/-- What is kept: all from s on, ahead of u. -/
theorem TreeT.keep {w w' : World} {s u h i : Nat} {x : Tr} {cs : List Value} (k : TreeT w s u h i x cs) (hk : ∀ b, s ≤ b → b < u → w'.heap[b]? = w.heap[b]?) : TreeT w' s u h i x cs := by
  obtain ⟨bs, k1, k2⟩ := k
  exact ⟨bs, sp_frame k1 fun b hb => hk b (k2.2 b hb).1 (k2.2 b hb).2, k2⟩
theorem RowT.keep {w w' : World} {s u h i : Nat} {v : Value} {xs : List Tr} (k : RowT w s u h i v xs) (hk : ∀ b, s ≤ b → b < u → w'.heap[b]? = w.heap[b]?) : RowT w' s u h i v xs := by
  obtain ⟨bs, k1, k2⟩ := k
  have hb : ∀ b ∈ bs, w'.heap[b]? = w.heap[b]? := fun b hb => hk b (k2.2 b hb).1 (k2.2 b hb).2
  exact ⟨bs, k1.frame hb fun _ _ b hb2 k => sp_frame k fun x hx => hb x (hb2 x hx), k2⟩
theorem StrT.keep {w w' : World} {s u : Nat} {v : Value} {xs : List ByteArray} (k : StrT w s u v xs) (hk : ∀ b, s ≤ b → b < u → w'.heap[b]? = w.heap[b]?) : StrT w' s u v xs := by
  obtain ⟨bs, k1, k2⟩ := k
  have hb : ∀ b ∈ bs, w'.heap[b]? = w.heap[b]? := fun b hb => hk b (k2.2 b hb).1 (k2.2 b hb).2
  exact ⟨bs, k1.frame hb fun _ _ _ _ k => k, k2⟩
theorem kept_mv {b s u : Nat} {w w' : World} (h : Mv b w w') (hb : b < s) (hu : u ≤ w.heap.size) : ∀ k, s ≤ k → k < u → w'.heap[k]? = w.heap[k]? := fun k h1 h2 => h.block k ⟨by omega, by omega⟩
theorem kept_below {s u : Nat} {w w' : World} (h : Below w.heap.size w w') (hu : u ≤ w.heap.size) : ∀ k, s ≤ k → k < u → w'.heap[k]? = w.heap[k]? := fun k _ h2 => h.block k (by omega)
theorem RowT.nil (w : World) (s u h i : Nat) : RowT w s u h i (.slice none 0 0) [] := ⟨[], RowS.nil w _ _ _, InR.nil s u⟩
theorem StrT.nil (w : World) (s u : Nat) : StrT w s u (.slice none 0 0) [] := ⟨[], RowS.nil w _ _ _, InR.nil s u⟩
theorem RowT.empty {w : World} {s u h i g : Nat} (hg : w.heap[g]? = some (.cells #[] (tyK i) (0, 0))) (h1 : s ≤ g) (h2 : g < u) : RowT w s u h i (.slice (some ⟨g, 0, none⟩) 0 0) [] :=
  ⟨[g], ⟨Nat.zero_le _, [], [], Row.empty hg, trivial, rfl⟩, InR.one h1 h2⟩
theorem StrT.empty {w : World} {s u g : Nat} (hg : w.heap[g]? = some (.cells #[] 9 (0, 0))) (h1 : s ≤ g) (h2 : g < u) : StrT w s u (.slice (some ⟨g, 0, none⟩) 0 0) [] :=
  ⟨[g], ⟨Nat.zero_le _, [], [], Row.empty hg, trivial, rfl⟩, InR.one h1 h2⟩
theorem RowT.form {w : World} {s u h i : Nat} {v : Value} {xs : List Tr} (k : RowT w s u h i v xs) : ∃ o cap, v = .slice o xs.length cap ∧ Fits xs.length cap := by
  obtain ⟨bs, k1, -⟩ := k
  exact k1.form
theorem StrT.form {w : World} {s u : Nat} {v : Value} {xs : List ByteArray} (k : StrT w s u v xs) : ∃ o cap, v = .slice o xs.length cap ∧ Fits xs.length cap := by
  obtain ⟨bs, k1, -⟩ := k
  exact k1.form
theorem one_ex {w : World} {h : Nat} {x : Tr} {cs : List Value} {bs : List Nat} (k : (seps w h).ex x cs bs) : ∀ u ∈ cs, u.oneCell' = true := by
  cases h with
  | zero => exact k.elim
  | succ h =>
    obtain ⟨e0, e1, v1, v2, v3, b1, b2, b3, rfl, rfl, r1, r2, r3⟩ := k
    obtain ⟨o1, c1, rfl, -⟩ := r1.form
    obtain ⟨o2, c2, rfl, -⟩ := r2.form
    obtain ⟨o3, c3, rfl, -⟩ := r3.form
    intro u hu
    simp only [List.mem_cons, List.not_mem_nil, or_false] at hu
    rcases hu with rfl | rfl | rfl | rfl | rfl | rfl <;> rfl
theorem sp_one {w : World} {h i : Nat} {x : Tr} {cs : List Value} {bs : List Nat} (k : sp w h i x cs bs) : cs.length = lenK i ∧ ∀ u ∈ cs, u.oneCell' = true := by
  unfold sp at k
  unfold lenK
  split at k
  · rename_i e
    rw [if_pos e]
    exact ⟨ex_len k, one_ex k⟩
  · rename_i e
    rw [if_neg e]
    split at k
    · rename_i e2
      rw [if_pos e2]
      cases h with
      | zero => exact k.elim
      | succ h =>
        obtain ⟨d0, d1, d2, d3, e, v1, ce, v2, b1, b2, b3, d4, rfl, rfl, r1, r2, r3⟩ := k
        obtain ⟨o1, c1, rfl, -⟩ := r1.form
        obtain ⟨o3, c3, rfl, -⟩ := r3.form
        refine ⟨by simp [ex_len r2], fun u hu => ?_⟩
        simp only [List.mem_append, List.mem_cons, List.not_mem_nil, or_false] at hu
        rcases hu with ((rfl | rfl) | hu) | rfl
        · rfl
        · rfl
        · exact one_ex r2 u hu
        · rfl
    · rename_i e2
      rw [if_neg e2]
      cases h with
      | zero => exact k.elim
      | succ h =>
        obtain ⟨d0, d1, d2, d3, d5, e, v1, ce, b1, b2, d4, rfl, rfl, r1, r2⟩ := k
        obtain ⟨o1, c1, rfl, -⟩ := r1.form
        refine ⟨by simp [ex_len r2], fun u hu => ?_⟩
        simp only [List.mem_append, List.mem_cons, List.not_mem_nil, or_false] at hu
        rcases hu with (rfl | rfl) | hu
        · rfl
        · rfl
        · exact one_ex r2 u hu
/-- The cells of an expression. -/
theorem TreeT.exp {w : World} {s u h : Nat} {x : Tr} {cs : List Value} (k : TreeT w s u h 0 x cs) : ∃ o1 c1 o2 c2 o3 c3, cs = [.int .i64 x.k, .string x.s, .int .i64 x.n, .slice o1 x.l.length c1, .slice o2 x.ds.length c2, .slice o3 x.al.length c3] := by
  obtain ⟨bs, k1, -⟩ := k
  have k2 : (seps w h).ex x cs bs := k1
  cases h with
  | zero => exact k2.elim
  | succ h =>
    obtain ⟨e0, e1, v1, v2, v3, b1, b2, b3, rfl, rfl, r1, r2, r3⟩ := k2
    obtain ⟨o1, c1, rfl, -⟩ := r1.form
    obtain ⟨o2, c2, rfl, -⟩ := r2.form
    obtain ⟨o3, c3, rfl, -⟩ := r3.form
    exact ⟨o1, c1, o2, c2, o3, c3, rfl⟩
theorem TreeT.dec {w : World} {s u h : Nat} {x : Tr} {cs : List Value} (k : TreeT w s u h 1 x cs) : ∃ o1 n1 c1 k s n o2 n2 c2 o3 n3 c3 o4 n4 c4 o5 n5 c5, cs = [.string x.s, .slice o1 n1 c1, .int .i64 k, .string s, .int .i64 n, .slice o2 n2 c2, .slice o3 n3 c3, .slice o4 n4 c4, .slice o5 n5 c5] := by
  obtain ⟨bs, k1, k3⟩ := k
  have k2 : (seps w h).de x cs bs := k1
  cases h with
  | zero => exact k2.elim
  | succ h =>
    obtain ⟨d0, d1, d2, d3, e, v1, ce, v2, b1, b2, b3, d4, rfl, rfl, r1, r2, r3⟩ := k2
    obtain ⟨o1, c1, rfl, -⟩ := r1.form
    obtain ⟨o3, c3, rfl, -⟩ := r3.form
    obtain ⟨p1, q1, p2, q2, p3, q3, rfl⟩ := TreeT.exp (u := u) ⟨b2, r2, k3.left.right⟩
    exact ⟨_, _, _, _, _, _, _, _, _, _, _, _, _, _, _, _, _, _, rfl⟩
theorem TreeT.alt {w : World} {s u h : Nat} {x : Tr} {cs : List Value} (k : TreeT w s u h 2 x cs) : ∃ o1 n1 c1 k s n o2 n2 c2 o3 n3 c3 o4 n4 c4, cs = [.string x.s, .slice o1 n1 c1, .int .i64 k, .string s, .int .i64 n, .slice o2 n2 c2, .slice o3 n3 c3, .slice o4 n4 c4] := by
  obtain ⟨bs, k1, k3⟩ := k
  have k2 : (seps w h).al x cs bs := k1
  cases h with
  | zero => exact k2.elim
  | succ h =>
    obtain ⟨d0, d1, d2, d3, d5, e, v1, ce, b1, b2, d4, rfl, rfl, r1, r2⟩ := k2
    obtain ⟨o1, c1, rfl, -⟩ := r1.form
    obtain ⟨p1, q1, p2, q2, p3, q3, rfl⟩ := TreeT.exp (u := u) ⟨b2, r2, k3.right⟩
    exact ⟨_, _, _, _, _, _, _, _, _, _, _, _, _, _, _, rfl⟩
theorem TreeT.reads {K : Nat → Prop} {w : World} {s u h : Nat} {x : Tr} {cs : List Value} (k : TreeT w s u h 0 x cs) (hK : ∀ b, s ≤ b → b < u → K b) : (reads K w h).ex x cs := by
  obtain ⟨bs, k1, k2⟩ := k
  exact (seps_reads h).1 _ _ bs (fun b hb => hK b (k2.2 b hb).1 (k2.2 b hb).2) k1

/-- An element is put behind a row: its blocks lie behind those of the row. -/
theorem put_blocks {w w' : World} {s u u2 : Nat} {v v' : Value} {bss : List (List Nat)} {c : List Nat} (h : InR s u (ownL v ++ bss.flatten)) (hc : InR u u2 c) (hu : s ≤ u) (hu2 : u ≤ u2) (hw : u2 ≤ w.heap.size) (hg : w.heap.size ≤ w'.heap.size) (hb : v'.ownBlock = v.ownBlock ∨ v'.ownBlock = some w.heap.size) (hl : ∀ g ∈ ownL v', g < w'.heap.size) : InR s w'.heap.size (ownL v' ++ (bss ++ [c]).flatten) := by
  have e : (bss ++ [c]).flatten = bss.flatten ++ c := by simp
  rw [e]
  have hall : InR s u2 (ownL v ++ bss.flatten ++ c) := h.app hc (Nat.le_refl _) hu hu2
  rcases hb with e2 | e2
  · have e3 : ownL v' = ownL v := by unfold ownL; rw [e2]
    rw [e3, ← List.append_assoc]
    exact hall.wide (Nat.le_refl _) (by omega)
  · have e3 : ownL v' = [w.heap.size] := by unfold ownL; rw [e2]; rfl
    rw [e3] at hl ⊢
    have h9 := hl _ (List.mem_singleton.2 rfl)
    have h8 : InR s u2 (bss.flatten ++ c) := by
      rw [List.append_assoc] at hall
      exact hall.right
    exact InR.comm (h8.app (InR.one (Nat.le_refl _) h9) hw (by omega) (by omega))
theorem RowT.put {P : Program} {T : TypeId} {i0 : TypeInfo} {z : Value} {bytes i : Nat} (hT : P.underlying T = some (.slice (tyK i))) (hi : P.info? (tyK i) = some i0) (hz : i0.zero = some z) (hsz : i0.size = lenK i) (hby : i0.bytes = bytes) (hzs : z.cells.size = lenK i) (h0 : 0 < lenK i) (hb : bytes ≤ 1000)
    {w : World} {s u u2 h : Nat} {v : Value} {xs : List Tr} {x : Tr} {c : List Value} (k : RowT w s u h i v xs) (kx : TreeT w u u2 h i x c) (hu : s ≤ u) (hu2 : u ≤ u2) (hw : u2 ≤ w.heap.size) (hn : xs.length + 1 ≤ 4000000) :
    ∃ o n cp o' c' w', v = .slice o n cp ∧ (Builtin.append_ #[T, T] T #[.slice o n cp, .slice (some ⟨w.heap.size, 0, none⟩) 1 1]).run P (w.alloc (.cells c.toArray (tyK i))) = .ok (.slice o' (xs.length + 1) c') w' ∧ RowT w' s w'.heap.size h i (.slice o' (xs.length + 1) c') (xs ++ [x]) ∧ Keeps (fun b => b < w.heap.size ∧ (b < s ∨ u ≤ b)) w w' := by
  obtain ⟨bs, ⟨hln, css, bss, r1, r2, rfl⟩, k2⟩ := k
  obtain ⟨bx, kx1, kx2⟩ := kx
  obtain ⟨o, cp, e0, -⟩ := r1.form
  subst e0
  have hbl : Below w.heap.size w (w.alloc (.cells c.toArray (tyK i))) := (Below.refl _ w).alloc (Nat.le_refl _) _
  have hrow : ∀ b ∈ ownL (.slice o css.length cp) ++ bss.flatten, b < w.heap.size := fun b hb => by have := (k2.2 b hb).2; omega
  have r3 : Row (w.alloc (.cells c.toArray (tyK i))) (tyK i) (lenK i) (.slice o css.length cp) css := r1.frame fun g hg => hbl.block g (hrow g (List.mem_append_left _ hg))
  obtain ⟨h1c, h1o⟩ := sp_one kx1
  obtain ⟨o', n', c', w', hr, hrow', hgr, hbk⟩ := r3.append hT hi hz hsz hby hzs h0 hb (by rw [r2.len.1]; omega) (a := w.heap.size) (c := c) h1c (fun j u hu => by
    have h9 := Go.Proofs.Ytgeckgdmkjddpaa.cell_of (heap_alloc_new w (.cells c.toArray (tyK i))) j
    rw [h9, List.getElem?_toArray]
    exact hu) h1o T
  have en : n' = xs.length + 1 := by
    obtain ⟨o9, c9, e9, -⟩ := hrow'.form
    simp only [Value.slice.injEq] at e9
    rw [e9.2.1, List.length_append, r2.len.1]
    rfl
  subst en
  have hsame : ∀ b ∈ bss.flatten ++ bx, w'.heap[b]? = w.heap[b]? := fun b hb => by
    have hlt : b < w.heap.size := by
      rcases List.mem_append.1 hb with hb | hb
      · exact hrow b (List.mem_append_right _ hb)
      · have := (kx2.2 b hb).2; omega
    refine (hgr.block b (by simp; omega) fun e => ?_).trans (hbl.block b hlt)
    have hin : b ∈ ownL (.slice o css.length cp) := by unfold ownL; rw [← e]; exact List.mem_singleton.2 rfl
    rcases List.mem_append.1 hb with hb | hb
    · exact (List.nodup_append.1 k2.1).2.2 b hin b hb rfl
    · have h5 := (kx2.2 b hb).1
      have h6 := (k2.2 b (List.mem_append_left _ hin)).2
      omega
  refine ⟨o, _, cp, o', c', w', rfl, hr, ⟨_, ⟨by simp; omega, css ++ [c], bss ++ [bx], hrow', All3.snoc (r2.mono fun a b c hc k => sp_frame k fun x hx => hsame x (List.mem_append_left _ (List.mem_flatten.2 ⟨c, hc, hx⟩))) (sp_frame kx1 fun x hx => hsame x (List.mem_append_right _ hx)), rfl⟩, ?_⟩, ?_⟩
  · refine put_blocks (w := w.alloc (.cells c.toArray (tyK i))) k2 kx2 hu hu2 (by simp; omega) hgr.size hbk fun g hg => (hrow'.lt g hg).1
  · refine ⟨hgr.os.trans hbl.os, hgr.tape.trans hbl.tape, hgr.output.trans hbl.output, Nat.le_trans hbl.size hgr.size, fun b hb => (hgr.block b (by simp; omega) fun e => ?_).trans (hbl.block b hb.1)⟩
    have hin : b ∈ ownL (.slice o css.length cp) := by unfold ownL; rw [← e]; exact List.mem_singleton.2 rfl
    have h6 := k2.2 b (List.mem_append_left _ hin)
    omega
theorem StrT.put {P : Program} {T : TypeId} {i0 : TypeInfo} {z : Value} {bytes : Nat} (hT : P.underlying T = some (.slice 9)) (hi : P.info? 9 = some i0) (hz : i0.zero = some z) (hsz : i0.size = 1) (hby : i0.bytes = bytes) (hzs : z.cells.size = 1) (hb : bytes ≤ 1000)
    {w : World} {s u : Nat} {v : Value} {xs : List ByteArray} {t : ByteArray} (k : StrT w s u v xs) (ht : t.size ≤ maxLen) (hu : s ≤ u) (hw : u ≤ w.heap.size) (hn : xs.length + 1 ≤ 4000000) :
    ∃ o n cp o' c' w', v = .slice o n cp ∧ (Builtin.append_ #[T, T] T #[.slice o n cp, .slice (some ⟨w.heap.size, 0, none⟩) 1 1]).run P (w.alloc (.cells #[.string t] 9)) = .ok (.slice o' (xs.length + 1) c') w' ∧ StrT w' s w'.heap.size (.slice o' (xs.length + 1) c') (xs ++ [t]) ∧ Keeps (fun b => b < w.heap.size ∧ (b < s ∨ u ≤ b)) w w' := by
  obtain ⟨bs, ⟨hln, css, bss, r1, r2, rfl⟩, k2⟩ := k
  obtain ⟨o, cp, e0, -⟩ := r1.form
  subst e0
  have hbl : Below w.heap.size w (w.alloc (.cells #[.string t] 9)) := (Below.refl _ w).alloc (Nat.le_refl _) _
  have hrow : ∀ b ∈ ownL (.slice o css.length cp) ++ bss.flatten, b < w.heap.size := fun b hb => by have := (k2.2 b hb).2; omega
  have r3 : Row (w.alloc (.cells #[.string t] 9)) 9 1 (.slice o css.length cp) css := r1.frame fun g hg => hbl.block g (hrow g (List.mem_append_left _ hg))
  obtain ⟨o', n', c', w', hr, hrow', hgr, hbk⟩ := r3.append hT hi hz hsz hby hzs (by decide) hb (by rw [r2.len.1]; omega) (a := w.heap.size) (c := [.string t]) rfl (fun j u hu => by
    have h9 := Go.Proofs.Ytgeckgdmkjddpaa.cell_of (heap_alloc_new w (.cells #[.string t] 9)) j
    rw [h9]
    simpa using hu) (fun u hu => by rw [List.mem_singleton] at hu; rw [hu]; rfl) T
  have en : n' = xs.length + 1 := by
    obtain ⟨o9, c9, e9, -⟩ := hrow'.form
    simp only [Value.slice.injEq] at e9
    rw [e9.2.1, List.length_append, r2.len.1]
    rfl
  subst en
  refine ⟨o, _, cp, o', c', w', rfl, hr, ⟨_, ⟨by simp; omega, css ++ [[.string t]], bss ++ [[]], hrow', All3.snoc (r2.mono fun a b c hc k => k) ⟨rfl, ht, rfl⟩, rfl⟩, ?_⟩, ?_⟩
  · refine put_blocks (w := w.alloc (.cells #[.string t] 9)) k2 (InR.nil u u) hu (Nat.le_refl _) (by simp; omega) hgr.size hbk fun g hg => (hrow'.lt g hg).1
  · refine ⟨hgr.os.trans hbl.os, hgr.tape.trans hbl.tape, hgr.output.trans hbl.output, Nat.le_trans hbl.size hgr.size, fun b hb => (hgr.block b (by simp; omega) fun e => ?_).trans (hbl.block b hb.1)⟩
    have hin : b ∈ ownL (.slice o css.length cp) := by unfold ownL; rw [← e]; exact List.mem_singleton.2 rfl
    have h6 := k2.2 b (List.mem_append_left _ hin)
    omega
/-- A row of one tree, written out behind it. -/
theorem RowT.lit1 {w : World} {s u u2 h i g : Nat} {x : Tr} {c : List Value} (kx : TreeT w s u h i x c) (hg : w.heap[g]? = some (.cells c.toArray (tyK i) (0, 0))) (h1 : u ≤ g) (h2 : g < u2) (hs : s ≤ g) : RowT w s u2 h i (.slice (some ⟨g, 0, none⟩) 1 1) [x] := by
  obtain ⟨bx, kx1, kx2⟩ := kx
  have hr := Row.lit (w := w) (E := tyK i) (sz := lenK i) (g := g) [c] (fun d hd => by rw [List.mem_singleton] at hd; rw [hd]; exact (sp_one kx1).1) (by simpa using hg) (by simp)
  refine ⟨[g] ++ bx, ⟨by simp, [c], [bx], hr, ⟨kx1, trivial⟩, by simp [ownL, Value.ownBlock]⟩, ?_⟩
  exact InR.comm (kx2.app (InR.one (Nat.le_refl g) h2) h1 hs (by omega))
theorem RowT.lit2 {w : World} {s u v u2 h i g : Nat} {x y : Tr} {c d : List Value} (kx : TreeT w s u h i x c) (ky : TreeT w u v h i y d) (hg : w.heap[g]? = some (.cells (c ++ d).toArray (tyK i) (0, 0))) (h0 : s ≤ u) (h3 : u ≤ v) (h1 : v ≤ g) (h2 : g < u2) : RowT w s u2 h i (.slice (some ⟨g, 0, none⟩) 2 2) [x, y] := by
  obtain ⟨bx, kx1, kx2⟩ := kx
  obtain ⟨bY, ky1, ky2⟩ := ky
  have hr := Row.lit (w := w) (E := tyK i) (sz := lenK i) (g := g) [c, d] (fun e he => by
    simp only [List.mem_cons, List.not_mem_nil, or_false] at he
    rcases he with rfl | rfl
    · exact (sp_one kx1).1
    · exact (sp_one ky1).1) (by simpa using hg) (by simp)
  refine ⟨[g] ++ (bx ++ bY), ⟨by simp, [c, d], [bx, bY], hr, ⟨kx1, ky1, trivial⟩, by simp [ownL, Value.ownBlock]⟩, ?_⟩
  exact InR.comm ((kx2.app ky2 (Nat.le_refl _) h0 h3).app (InR.one (Nat.le_refl g) h2) h1 (by omega) (by omega))
theorem RowT.lit3 {w : World} {s u v t u2 h i g : Nat} {x y z : Tr} {c d e : List Value} (kx : TreeT w s u h i x c) (ky : TreeT w u v h i y d) (kz : TreeT w v t h i z e) (hg : w.heap[g]? = some (.cells (c ++ d ++ e).toArray (tyK i) (0, 0))) (h0 : s ≤ u) (h3 : u ≤ v) (h4 : v ≤ t) (h1 : t ≤ g) (h2 : g < u2) : RowT w s u2 h i (.slice (some ⟨g, 0, none⟩) 3 3) [x, y, z] := by
  obtain ⟨bx, kx1, kx2⟩ := kx
  obtain ⟨bY, ky1, ky2⟩ := ky
  obtain ⟨bz, kz1, kz2⟩ := kz
  have hr := Row.lit (w := w) (E := tyK i) (sz := lenK i) (g := g) [c, d, e] (fun f hf => by
    simp only [List.mem_cons, List.not_mem_nil, or_false] at hf
    rcases hf with rfl | rfl | rfl
    · exact (sp_one kx1).1
    · exact (sp_one ky1).1
    · exact (sp_one kz1).1) (by simpa using hg) (by simp)
  refine ⟨[g] ++ (bx ++ bY ++ bz), ⟨by simp, [c, d, e], [bx, bY, bz], hr, ⟨kx1, ky1, kz1, trivial⟩, by simp [ownL, Value.ownBlock]⟩, ?_⟩
  exact InR.comm (((kx2.app ky2 (Nat.le_refl _) h0 h3).app kz2 (Nat.le_refl _) (by omega) (by omega)).app (InR.one (Nat.le_refl g) h2) h1 (by omega) (by omega))
theorem StrT.lit1 {w : World} {s u2 g : Nat} {t : ByteArray} (ht : t.size ≤ maxLen) (hg : w.heap[g]? = some (.cells #[.string t] 9 (0, 0))) (h1 : s ≤ g) (h2 : g < u2) : StrT w s u2 (.slice (some ⟨g, 0, none⟩) 1 1) [t] := by
  have hr := Row.lit (w := w) (E := 9) (sz := 1) (g := g) [[.string t]] (fun e he => by rw [List.mem_singleton] at he; rw [he]; rfl) (by simpa using hg) (by simp)
  exact ⟨[g], ⟨by simp, [[.string t]], [[]], hr, ⟨⟨rfl, ht, rfl⟩, trivial⟩, by simp [ownL, Value.ownBlock]⟩, InR.one h1 h2⟩
theorem mk_exp {w : World} {s u1 u2 u3 h : Nat} {v1 v2 v3 : Value} {l ds al : List Tr} (k : Int) (t : ByteArray) (ht : t.size ≤ maxLen) (n : Int) (h1 : RowT w s u1 h 0 v1 l) (h2 : RowT w u1 u2 h 1 v2 ds) (h3 : RowT w u2 u3 h 2 v3 al) (e1 : s ≤ u1) (e2 : u1 ≤ u2) (e3 : u2 ≤ u3) : TreeT w s u3 (h + 1) 0 ⟨k, t, n, [], l, ds, al⟩ [.int .i64 k, .string t, .int .i64 n, v1, v2, v3] := by
  obtain ⟨b1, r1, i1⟩ := h1
  obtain ⟨b2, r2, i2⟩ := h2
  obtain ⟨b3, r3, i3⟩ := h3
  refine ⟨b1 ++ b2 ++ b3, ⟨rfl, ht, v1, v2, v3, b1, b2, b3, rfl, rfl, r1, r2, r3⟩, ?_⟩
  exact (i1.app i2 (Nat.le_refl _) e1 e2).app i3 (Nat.le_refl _) (by omega) (by omega)
/-- What is behind comes first. -/
theorem mk_exp' {w : World} {s u1 u2 u3 h : Nat} {v1 v2 v3 : Value} {l ds al : List Tr} (k : Int) (t : ByteArray) (ht : t.size ≤ maxLen) (n : Int) (h2 : RowT w s u1 h 1 v2 ds) (h1 : RowT w u1 u2 h 0 v1 l) (h3 : RowT w u2 u3 h 2 v3 al) (e1 : s ≤ u1) (e2 : u1 ≤ u2) (e3 : u2 ≤ u3) : TreeT w s u3 (h + 1) 0 ⟨k, t, n, [], l, ds, al⟩ [.int .i64 k, .string t, .int .i64 n, v1, v2, v3] := by
  obtain ⟨b1, r1, i1⟩ := h1
  obtain ⟨b2, r2, i2⟩ := h2
  obtain ⟨b3, r3, i3⟩ := h3
  refine ⟨b1 ++ b2 ++ b3, ⟨rfl, ht, v1, v2, v3, b1, b2, b3, rfl, rfl, r1, r2, r3⟩, ?_⟩
  exact (InR.comm (i2.app i1 (Nat.le_refl _) e1 e2)).app i3 (Nat.le_refl _) (by omega) (by omega)
theorem mk_leaf (w : World) (s u : Nat) (k : Int) (t : ByteArray) (ht : t.size ≤ maxLen) (n : Int) (hu : s ≤ u) : TreeT w s u 1 0 ⟨k, t, n, [], [], [], []⟩ [.int .i64 k, .string t, .int .i64 n, .slice none 0 0, .slice none 0 0, .slice none 0 0] :=
  (mk_exp k t ht n (RowT.nil w s s 0 0) (RowT.nil w s s 0 1) (RowT.nil w s u 0 2) (Nat.le_refl _) (Nat.le_refl _) hu)
theorem mk_dec {w : World} {s u1 u2 u3 h : Nat} {v1 v2 : Value} {ce : List Value} {ss : List ByteArray} {e : Tr} {ds : List Tr} (t : ByteArray) (ht : t.size ≤ maxLen) (h1 : StrT w s u1 v1 ss) (h2 : TreeT w u1 u2 h 0 e ce) (h3 : RowT w u2 u3 h 1 v2 ds) (e1 : s ≤ u1) (e2 : u1 ≤ u2) (e3 : u2 ≤ u3) : TreeT w s u3 (h + 1) 1 (tDec t ss e ds) ([.string t, v1] ++ ce ++ [v2]) := by
  obtain ⟨b1, r1, i1⟩ := h1
  obtain ⟨b2, r2, i2⟩ := h2
  obtain ⟨b3, r3, i3⟩ := h3
  refine ⟨b1 ++ b2 ++ b3, ⟨rfl, rfl, rfl, ht, e, v1, ce, v2, b1, b2, b3, rfl, rfl, rfl, r1, r2, r3⟩, ?_⟩
  exact (i1.app i2 (Nat.le_refl _) e1 e2).app i3 (Nat.le_refl _) (by omega) (by omega)
theorem mk_alt {w : World} {s u1 u2 h : Nat} {v1 : Value} {ce : List Value} {ss : List ByteArray} {e : Tr} (t : ByteArray) (ht : t.size ≤ maxLen) (h1 : StrT w s u1 v1 ss) (h2 : TreeT w u1 u2 h 0 e ce) (e1 : s ≤ u1) (e2 : u1 ≤ u2) : TreeT w s u2 (h + 1) 2 (tAlt t ss e) ([.string t, v1] ++ ce) := by
  obtain ⟨b1, r1, i1⟩ := h1
  obtain ⟨b2, r2, i2⟩ := h2
  refine ⟨b1 ++ b2, ⟨rfl, rfl, rfl, rfl, ht, e, v1, ce, b1, b2, rfl, rfl, rfl, r1, r2⟩, ?_⟩
  exact i1.app i2 (Nat.le_refl _) e1 e2
end Go.Proofs.Ytgeckgdmkjddpaa.Rd
namespace Go.Proofs.Ytgeckgdmkjddpaa
open Go.RowKit

/-- A world of a class. -/
structure Cl (S : World → Prop) where
  w : World
  h : S w
theorem wp_region_class {P : Program} {S : World → Prop} {id : Nat} {Q : Exit → Act → World → Prop} {a : Act} {w : World} {l : List Oper} (hm : P.follows .mixedOrders = true) (hB : Region.lexB .any l.toArray = true) (hS : S (w.drewN 1))
    (h : wpQuiet P l.toArray (fun w' => ∃ q : Cl S, w' = q.w) (fun a' => ∀ w', (∃ q : Cl S, w' = q.w) → Q .normal a' w') l a) : (Code.region id l.toArray true).wp P Q a w :=
  wp_region_quiet (C := fun w' => ∃ q : Cl S, w' = q.w) hm hB ⟨⟨_, hS⟩, rfl⟩ (by simpa using h)
theorem below_drew (w : World) : Below w.heap.size w (w.drewN 1) := (Below.refl _ _).drew
/-- The worlds that keep all that was there. -/
abbrev Later (w : World) : Type := Cl (fun v => Below w.heap.size w v)
theorem later_nonempty (w : World) : Nonempty (Later w) := ⟨⟨w, Below.refl _ _⟩⟩
def Later.on {w : World} (q : Later w) {w1 : World} (h : Below q.w.heap.size q.w w1) : Later w := ⟨w1, q.h.trans (h.mono q.h.size)⟩
end Go.Proofs.Ytgeckgdmkjddpaa
namespace Go.Proofs.Ytgeckgdmkjddpaa.Nm
open Go.ChangeShapes Go.WideShapes Go.ChangeAt Go.RowKit

theorem less_eq : ∀ (x y : List UInt8), Op.bytesLess x y = decide (x < y)
  | [], [] => by simp [Op.bytesLess]
  | _ :: _, [] => by simp [Op.bytesLess]
  | [], _ :: _ => by simp [Op.bytesLess]
  | a :: x, b :: y => by
    rw [Op.bytesLess, less_eq x y]
    simp only [List.cons_lt_cons_iff]
    by_cases h1 : a < b <;> by_cases h2 : a = b <;> by_cases h3 : x < y <;> simp [h1, h2, h3]
theorem toList_inj {a b : ByteArray} (h : a.toList = b.toList) : a = b := by
  rw [ByteArray.toList_eq, ByteArray.toList_eq] at h
  cases a
  cases b
  exact congrArg ByteArray.mk (Array.toList_inj.1 h)
theorem toList_beq (a b : ByteArray) : (a.toList == b.toList) = true ↔ a = b := by
  rw [beq_iff_eq]
  exact ⟨toList_inj, fun h => by rw [h]⟩
/-- What no name is: the stroke below. -/
def und : ByteArray := ⟨#[95]⟩
theorem und_list : und.toList = [95] := by kernel_rfl
def LtS (a b : ByteArray) : Prop := a.toList < b.toList
def Asc (l : List ByteArray) : Prop := l.Pairwise LtS
theorem ltS_trans {a b c : ByteArray} (h : LtS a b) (k : LtS b c) : LtS a c := List.lt_trans h k
theorem ltS_irrefl (a : ByteArray) : ¬ LtS a a := List.lt_irrefl _
theorem ltS_total {a b : ByteArray} (h : ¬ LtS a b) (hne : a ≠ b) : LtS b a := by
  unfold LtS at *
  rcases List.le_total a.toList b.toList with h1 | h1
  · rcases Classical.em (a.toList < b.toList) with h2 | h2
    · exact absurd h2 h
    · exact absurd (toList_inj (List.le_antisymm h1 (List.not_lt.1 h2))) hne
  · rcases Classical.em (b.toList < a.toList) with h2 | h2
    · exact h2
    · exact absurd (toList_inj (List.le_antisymm (List.not_lt.1 h2) h1)) hne
theorem asc_ext : ∀ {l m : List ByteArray}, Asc l → Asc m → (∀ x, x ∈ l ↔ x ∈ m) → l = m := by
  intro l
  induction l with
  | nil =>
    intro m _ _ h
    cases m with
    | nil => rfl
    | cons b m => exact absurd ((h b).2 (by simp)) (by simp)
  | cons a l ih =>
    intro m h1 h2 h
    cases m with
    | nil => exact absurd ((h a).1 (by simp)) (by simp)
    | cons b m =>
      obtain ⟨ha, hl⟩ := List.pairwise_cons.1 h1
      obtain ⟨hb, hm⟩ := List.pairwise_cons.1 h2
      have hab : a = b := by
        rcases List.mem_cons.1 ((h a).1 (by simp)) with e | e
        · exact e
        · rcases List.mem_cons.1 ((h b).2 (by simp)) with e2 | e2
          · exact e2.symm
          · exact absurd (ltS_trans (ha b e2) (hb a e)) (ltS_irrefl a)
      subst hab
      rw [ih hl hm fun x => ?_]
      constructor
      · intro hx
        rcases List.mem_cons.1 ((h x).1 (by simp [hx])) with e | e
        · exact absurd (ha x hx) (e ▸ ltS_irrefl x)
        · exact e
      · intro hx
        rcases List.mem_cons.1 ((h x).2 (by simp [hx])) with e | e
        · exact absurd (hb x hx) (e ▸ ltS_irrefl x)
        · exact e

/-- A row of names that is owned. -/
def NRow (B : Nat) (w : World) (v : Value) (l : List ByteArray) : Prop := w.ownsRow B 9 1 v l.length (l.map Value.string) ∧ (∀ s ∈ l, s.size ≤ maxLen) ∧ l.length ≤ maxLen
theorem str_info : (Try.prog.info? 9).map (fun i => (i.zero, i.size, i.bytes)) = some (some (.string ⟨#[]⟩), 1, 16) := by kernel_rfl
theorem NRow.rowOf {B : Nat} {w : World} {v : Value} {l : List ByteArray} (h : NRow B w v l) : ∃ o cap, v = .slice o l.length cap ∧ Fits l.length cap ∧ RowOf (fun b => B ≤ b ∧ v.ownBlock = some b) w strR 1 o l := by
  obtain ⟨⟨hl, hc⟩, hs, hm⟩ := h
  rcases hc with ⟨rfl, h0⟩ | ⟨g, cap, cur, rfl, hb, hg, hn, hcap, hsz, htk⟩
  · have hts : l = [] := List.length_eq_zero_iff.1 h0
    subst hts
    exact ⟨none, 0, rfl, ⟨hm, Nat.le_refl _⟩, fun h => absurd rfl h⟩
  · refine ⟨some ⟨g, 0, none⟩, cap, rfl, ⟨hm, hn⟩, fun _ => ⟨g, 0, rfl, ⟨hb, rfl⟩, heap_lt hg, fun i t ht => ?_⟩⟩
    have hi : i < l.length := (List.getElem?_eq_some_iff.1 ht).1
    refine ⟨[.string t], rfl, fun j u hu => ?_, rfl, hs t (List.mem_of_getElem? ht)⟩
    have hj : j = 0 := by
      have := (List.getElem?_eq_some_iff.1 hu).1
      simpa using this
    subst hj
    have hu2 : Value.string t = u := by simpa using hu
    subst hu2
    have e0 : 0 + i * 1 + 0 = i := by omega
    rw [e0]
    exact owns_cell hg htk i (by omega) _ (by rw [List.getElem?_map, ht]; rfl)
theorem NRow.block {B : Nat} {w w' : World} {v : Value} {l : List ByteArray} (h : NRow B w v l) (hb : ∀ g, v.ownBlock = some g → w'.heap[g]? = w.heap[g]?) : NRow B w' v l := ⟨owns_block h.1 hb, h.2⟩
theorem NRow.lt {B : Nat} {w : World} {v : Value} {l : List ByteArray} (h : NRow B w v l) : ∀ g, v.ownBlock = some g → g < w.heap.size ∧ B ≤ g := owns_lt h.1
theorem NRow.later {B : Nat} {w w' : World} {v : Value} {l : List ByteArray} (h : NRow B w v l) (hb : Below w.heap.size w w') : NRow B w' v l := h.block fun g hg => hb.block g (h.lt g hg).1
theorem NRow.base {B B' : Nat} {w : World} {v : Value} {l : List ByteArray} (h : NRow B w v l) (hb : B' ≤ B) : NRow B' w v l := ⟨owns_base h.1 fun g hg => Nat.le_trans hb (h.lt g hg).2, h.2⟩
theorem NRow.empty (w : World) : NRow w.heap.size (w.alloc (.cells #[] 9)) (.slice (some ⟨w.heap.size, 0, none⟩) 0 0) [] := ⟨owns_empty w 9 1, fun s hs => (by cases hs), Nat.zero_le _⟩
/-- An append onto an owned row, whatever the other one is. -/
theorem app_run {P : Program} {T E : TypeId} {i0 : TypeInfo} {z : Value} {sz bytes : Nat} (hT : P.underlying T = some (.slice E)) (hi : P.info? E = some i0) (hz : i0.zero = some z) (hsz : i0.size = sz) (hby : i0.bytes = bytes) (hzs : z.cells.size = sz) (h0 : 0 < sz) (hb : bytes ≤ 1000)
    {B : Nat} {w : World} {v : Value} {n : Nat} {xs : List Value} (h : w.ownsRow B E sz v n xs) (hB : B ≤ w.heap.size) (o : Option Addr) (m c : Nat) (news : List Value) (hl : news.length = m * sz) (ho : m ≠ 0 → ∃ b off, o = some ⟨b, off, none⟩ ∧ ∀ j u, news[j]? = some u → w.cell? ⟨b, off + j, none⟩ = some u) (h1 : ∀ u ∈ news, u.oneCell' = true)
    (hn : n + m ≤ 100000000) (ty : TypeId) :
    ∃ v' w', (Builtin.append_ #[T, T] ty #[v, .slice o m c]).run P w = .ok v' w' ∧ w'.ownsRow B E sz v' (n + m) (xs ++ news) ∧ w.grownBy w' v.ownBlock ∧ (v'.ownBlock = v.ownBlock ∨ v'.ownBlock = some w.heap.size) := by
  have hbt : (n + m) * bytes ≤ 140737488355328 := by
    have h5 : (n + m) * bytes ≤ 100000000 * 1000 := Nat.mul_le_mul hn hb
    omega
  have key : ∀ a : Addr, (∀ j u, news[j]? = some u → w.cell? (a.add j) = some u) → ∃ v' w', (Builtin.append_ #[T, T] ty #[v, .slice (some a) m c]).run P w = .ok v' w' ∧ w'.ownsRow B E sz v' (n + m) (xs ++ news) ∧ w.grownBy w' v.ownBlock ∧ (v'.ownBlock = v.ownBlock ∨ v'.ownBlock = some w.heap.size) := fun a ha => by
    obtain ⟨v', w', hr, hown, hgr, -, hbk⟩ := run_append_own_at (P := P) w B T ty E i0 z sz bytes hT hi hz hsz hby hzs h0 v n xs h a m c news hl ha h1 (by unfold maxLen; omega) hbt hB
    exact ⟨v', w', hr, hown, hgr, hbk⟩
  by_cases hm : m = 0
  · subst hm
    have hnil : news = [] := List.eq_nil_of_length_eq_zero (by simpa using hl)
    subst hnil
    cases o with
    | some a => exact key a fun j u hu => by simp at hu
    | none =>
      have hr : (Builtin.append_ #[T, T] ty #[v, .slice none 0 c]).run P w = .ok v w := by
        rcases h.2 with ⟨rfl, rfl⟩ | ⟨g, cap, cur, rfl, _, _, hnc, _⟩
        · simp [Builtin.append_, run_underlying hT, sizeOf, typeInfo, hi, Builtin.lenOf, Builtin.firstCells]
        · simp [Builtin.append_, run_underlying hT, sizeOf, typeInfo, hi, Builtin.lenOf, Builtin.firstCells, hnc, storeCells]
      refine ⟨v, w, hr, by simpa using h, ⟨rfl, rfl, rfl, Nat.le_refl _, fun _ _ _ => rfl⟩, .inl rfl⟩
  · obtain ⟨b, off, rfl, hc⟩ := ho hm
    exact key _ fun j u hu => by
      have h9 := hc j u hu
      unfold Addr.add
      split
      · rename_i e0
        rw [e0] at h9
        exact h9
      · simpa using h9
/-- A row of names that is read is put behind an owned one. -/
theorem NRow.app {K : Nat → Prop} {B : Nat} {w : World} {v : Value} {l m : List ByteArray} (h : NRow B w v l) (hB : B ≤ w.heap.size) {o : Option Addr} (c : Nat) (hm : RowOf K w strR 1 o m) (hn : l.length + m.length ≤ 100000000) (ty : TypeId) :
    ∃ v' w', (Builtin.append_ #[38, 38] ty #[v, .slice o m.length c]).run Try.prog w = .ok v' w' ∧ NRow B w' v' (l ++ m) ∧ w.grownBy w' v.ownBlock ∧ (v'.ownBlock = v.ownBlock ∨ v'.ownBlock = some w.heap.size) := by
  obtain ⟨i0, hi, hz0, hz1, hz2⟩ := info_parts str_info
  obtain ⟨v', w', hr, hown, hgr, hbk⟩ := app_run (P := Try.prog) Try.underlying38 hi hz0 hz1 hz2 rfl (by decide) (by decide) h.1 hB o m.length c (m.map Value.string) (by simp) (fun hne => by
    obtain ⟨b, off, e, -, -, hc⟩ := hm (fun e => hne (by rw [e]; rfl))
    refine ⟨b, off, e, fun j u hu => ?_⟩
    rw [List.getElem?_map, Option.map_eq_some_iff] at hu
    obtain ⟨t, ht, rfl⟩ := hu
    obtain ⟨cs, -, hcell, rfl, -⟩ := hc j t ht
    have := hcell 0 _ rfl
    rw [Nat.mul_one, Nat.add_zero] at this
    exact this) (fun u hu => by
    obtain ⟨t, -, rfl⟩ := List.mem_map.1 hu
    rfl) hn ty
  refine ⟨v', w', hr, ⟨?_, fun s hs => ?_, ?_⟩, hgr, hbk⟩
  · rw [List.length_append, List.map_append]
    exact hown
  · rcases List.mem_append.1 hs with hs | hs
    · exact h.2.1 s hs
    · obtain ⟨j, hj⟩ := List.mem_iff_getElem?.1 hs
      obtain ⟨b, off, e, -, -, hc⟩ := hm (fun e => by rw [e] at hs; cases hs)
      obtain ⟨cs, -, -, -, h9⟩ := hc j s hj
      exact h9
  · rw [List.length_append]
    unfold maxLen
    omega
theorem one_row {w : World} {b : Nat} {s : ByteArray} {e : TypeId} {fz : Nat × Nat} (h : w.heap[b]? = some (.cells #[.string s] e fz)) (hs : s.size ≤ maxLen) : RowOf (fun _ => True) w strR 1 (some ⟨b, 0, none⟩) [s] := by
  intro _
  refine ⟨b, 0, rfl, trivial, heap_lt h, fun i x hx => ?_⟩
  have hi : i = 0 := by
    have := (List.getElem?_eq_some_iff.1 hx).1
    simpa using this
  subst hi
  have hx2 : s = x := by simpa using hx
  subst hx2
  refine ⟨[.string s], rfl, fun j u hu => ?_, rfl, hs⟩
  have hj : j = 0 := by
    have := (List.getElem?_eq_some_iff.1 hu).1
    simpa using this
  subst hj
  rw [cell_of h]
  simpa using hu
theorem below_grown {w w' : World} {row : Option Nat} {B : Nat} (h : w.grownBy w' row) (hB : B ≤ w.heap.size) (hr : ∀ k, row = some k → B ≤ k) : Below B w w' :=
  ⟨h.os, h.tape, h.output, h.size, fun k hk => h.block k (by omega) fun e => by have := hr k e.symm; omega⟩

def hasS (l : List ByteArray) (s : ByteArray) : Bool := l.any fun t => t.toList == s.toList
theorem hasS_mem {l : List ByteArray} {s : ByteArray} : hasS l s = true ↔ s ∈ l := by
  unfold hasS
  rw [List.any_eq_true]
  constructor
  · rintro ⟨t, ht, h⟩
    have := (toList_beq t s).1 h
    exact this ▸ ht
  · exact fun h => ⟨s, h, by simp⟩
theorem hasS_yes (ss : List ByteArray) (s : ByteArray) (k : Nat) (h : k < ss.length) (hk : (ss[k].toList == s.toList) = true) : hasS ss s = true := by
  unfold hasS
  rw [List.any_eq_true]
  exact ⟨ss[k], List.getElem_mem h, hk⟩
theorem hasS_step (ss : List ByteArray) (s : ByteArray) (k : Nat) (h : k < ss.length) (h0 : hasS (ss.take k) s = false) (hk : (ss[k].toList == s.toList) = false) : hasS (ss.take (k + 1)) s = false := by
  unfold hasS at *
  rw [List.take_succ_eq_append_getElem h, List.any_append, h0]
  simpa using hk
end Go.Proofs.Ytgeckgdmkjddpaa.Nm
