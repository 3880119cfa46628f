import Derived.Test.YtfomndilhlgikajGreatDoorP08
import Derived.Test.YtfomndilhlgikajGreatDoorP06
set_option maxHeartbeats 8000000
set_option maxRecDepth 100000
namespace Go.Proofs.YtfomndilhlgikajGreatDoor.Rd
open Go.ChangeShapes Go.WideShapes Go.ChangeAt Go.RowKit
def InR (s u : Nat) (bs : List Nat) : Prop := bs.Nodup /\ ∀ b ∈ bs, s <= b /\ b < u
theorem InR.nil (s u : Nat) : InR s u [] := ⟨List.nodup_nil, fun b hb => (by cases hb)⟩
theorem InR.wide {s u s' u' : Nat} {bs : List Nat} (h : InR s u bs) (hs : s' <= s) (hu : u <= u') : InR s' u' bs := ⟨h.1, fun b hb => by have := h.2 b hb; omega⟩
theorem InR.app {s u v t : Nat} {a b : List Nat} (h : InR s u a) (k : InR v t b) (huv : u <= v) (hs : s <= v) (ht : u <= t) : InR s t (a ++ b) := by
 refine ⟨List.nodup_append.2 ⟨h.1, k.1, fun x hx y hy e => ?_⟩, fun x hx => ?_⟩
 ·have h1 := h.2 x hx
  have h2 := k.2 y hy
  omega
 ·rcases List.mem_append.1 hx with hx | hx
  ·have := h.2 x hx; omega
  ·have := k.2 x hx; omega
theorem InR.one {s u b : Nat} (h1 : s <= b) (h2 : b < u) : InR s u [b] := ⟨by simp, fun x hx => by rw [List.mem_singleton] at hx; omega⟩
theorem InR.comm {s u : Nat} {a b : List Nat} (h : InR s u (a ++ b)) : InR s u (b ++ a) := by
 refine ⟨?_, fun x hx => h.2 x (List.mem_append.2 (List.mem_append.1 hx).symm)⟩
 obtain ⟨h1, h2, h3⟩ := List.nodup_append.1 h.1
 exact List.nodup_append.2 ⟨h2, h1, fun x hx y hy e => h3 y hy x hx e.symm⟩
theorem InR.left {s u : Nat} {a b : List Nat} (h : InR s u (a ++ b)) : InR s u a := ⟨(List.nodup_append.1 h.1).1, fun x hx => h.2 x (List.mem_append_left _ hx)⟩
theorem InR.right {s u : Nat} {a b : List Nat} (h : InR s u (a ++ b)) : InR s u b := ⟨(List.nodup_append.1 h.1).2.1, fun x hx => h.2 x (List.mem_append_right _ hx)⟩
def TreeT (w : World) (s u h i : Nat) (x : Tr) (cs : List Value) : Prop := ∃ bs, sp w h i x cs bs /\ InR s u bs
def RowT (w : World) (s u h i : Nat) (v : Value) (xs : List Tr) : Prop := ∃ bs, RowS w (sp w h i) (ls i) (ij i) v xs bs /\ InR s u bs
def StrT (w : World) (s u : Nat) (v : Value) (ss : List ByteArray) : Prop := ∃ bs, RowS w qq 9 1 v ss bs /\ InR s u bs
theorem TreeT.up {w : World} {s u s' u' h h' i : Nat} {x : Tr} {cs : List Value} (k : TreeT w s u h i x cs) (hs : s' <= s) (hu : u <= u') (hh : h <= h') : TreeT w s' u' h' i x cs := by
 obtain ⟨bs, k1, k2⟩ := k
 exact ⟨bs, tU hh k1, k2.wide hs hu⟩
theorem RowT.up {w : World} {s u s' u' h h' i : Nat} {v : Value} {xs : List Tr} (k : RowT w s u h i v xs) (hs : s' <= s) (hu : u <= u') (hh : h <= h') : RowT w s' u' h' i v xs := by
 obtain ⟨bs, k1, k2⟩ := k
 exact ⟨bs, k1.frame (fun _ _ => rfl) fun _ _ _ _ k => tU hh k, k2.wide hs hu⟩
theorem StrT.up {w : World} {s u s' u' : Nat} {v : Value} {xs : List ByteArray} (k : StrT w s u v xs) (hs : s' <= s) (hu : u <= u') : StrT w s' u' v xs := by
 obtain ⟨bs, k1, k2⟩ := k
 exact ⟨bs, k1, k2.wide hs hu⟩
theorem TreeT.keep {w w' : World} {s u h i : Nat} {x : Tr} {cs : List Value} (k : TreeT w s u h i x cs) (hk : ∀ b, s <= b -> b < u -> w'.heap[b]? = w.heap[b]?) : TreeT w' s u h i x cs := by
 obtain ⟨bs, k1, k2⟩ := k
 exact ⟨bs, kl k1 fun b hb => hk b (k2.2 b hb).1 (k2.2 b hb).2, k2⟩
theorem RowT.keep {w w' : World} {s u h i : Nat} {v : Value} {xs : List Tr} (k : RowT w s u h i v xs) (hk : ∀ b, s <= b -> b < u -> w'.heap[b]? = w.heap[b]?) : RowT w' s u h i v xs := by
 obtain ⟨bs, k1, k2⟩ := k
 have hb : ∀ b ∈ bs, w'.heap[b]? = w.heap[b]? := fun b hb => hk b (k2.2 b hb).1 (k2.2 b hb).2
 exact ⟨bs, k1.frame hb fun _ _ b aX k => kl k fun x hx => hb x (aX x hx), k2⟩
theorem StrT.keep {w w' : World} {s u : Nat} {v : Value} {xs : List ByteArray} (k : StrT w s u v xs) (hk : ∀ b, s <= b -> b < u -> w'.heap[b]? = w.heap[b]?) : StrT w' s u v xs := by
 obtain ⟨bs, k1, k2⟩ := k
 have hb : ∀ b ∈ bs, w'.heap[b]? = w.heap[b]? := fun b hb => hk b (k2.2 b hb).1 (k2.2 b hb).2
 exact ⟨bs, k1.frame hb fun _ _ _ _ k => k, k2⟩
theorem bv {b s u : Nat} {w w' : World} (h : Mv b w w') (hb : b < s) (hu : u <= w.heap.size) : ∀ k, s <= k -> k < u -> w'.heap[k]? = w.heap[k]? := fun k h1 h2 => h.block k ⟨by omega, by omega⟩
theorem aw {s u : Nat} {w w' : World} (h : Below w.heap.size w w') (hu : u <= w.heap.size) : ∀ k, s <= k -> k < u -> w'.heap[k]? = w.heap[k]? := fun k _ h2 => h.block k (by omega)
theorem RowT.nil (w : World) (s u h i : Nat) : RowT w s u h i (.slice none 0 0) [] := ⟨[], RowS.nil w _ _ _, InR.nil s u⟩
theorem StrT.nil (w : World) (s u : Nat) : StrT w s u (.slice none 0 0) [] := ⟨[], RowS.nil w _ _ _, InR.nil s u⟩
theorem RowT.empty {w : World} {s u h i g : Nat} (hg : w.heap[g]? = some (.cells #[] (ls i) (0, 0))) (h1 : s <= g) (h2 : g < u) : RowT w s u h i (.slice (some ⟨g, 0, none⟩) 0 0) [] :=
 ⟨[g], ⟨Nat.zero_le _, [], [], Row.empty hg, trivial, rfl⟩, InR.one h1 h2⟩
theorem StrT.empty {w : World} {s u g : Nat} (hg : w.heap[g]? = some (.cells #[] 9 (0, 0))) (h1 : s <= g) (h2 : g < u) : StrT w s u (.slice (some ⟨g, 0, none⟩) 0 0) [] :=
 ⟨[g], ⟨Nat.zero_le _, [], [], Row.empty hg, trivial, rfl⟩, InR.one h1 h2⟩
theorem RowT.form {w : World} {s u h i : Nat} {v : Value} {xs : List Tr} (k : RowT w s u h i v xs) : ∃ o cap, v = .slice o xs.length cap /\ pC xs.length cap := by
 obtain ⟨bs, k1, -⟩ := k
 exact k1.form
theorem StrT.form {w : World} {s u : Nat} {v : Value} {xs : List ByteArray} (k : StrT w s u v xs) : ∃ o cap, v = .slice o xs.length cap /\ pC xs.length cap := by
 obtain ⟨bs, k1, -⟩ := k
 exact k1.form
theorem wA {w : World} {h : Nat} {x : Tr} {cs : List Value} {bs : List Nat} (k : (eF w h).ex x cs bs) : ∀ u ∈ cs, u.oneCell' = true := by
 cases h with
 | zero => exact k.elim
 | succ h =>
  obtain ⟨e0, e1, v1, v2, v3, b1, b2, b3, rfl, rfl, r1, r2, r3⟩ := k
  obtain ⟨o1, c1, rfl, -⟩ := r1.form
  obtain ⟨o2, c2, rfl, -⟩ := r2.form
  obtain ⟨o3, c3, rfl, -⟩ := r3.form
  intro u hu
  simp only [List.mem_cons, List.not_mem_nil, or_false] at hu
  rcases hu with rfl | rfl | rfl | rfl | rfl | rfl <;> rfl
theorem ic {w : World} {h i : Nat} {x : Tr} {cs : List Value} {bs : List Nat} (k : sp w h i x cs bs) : cs.length = ij i /\ ∀ u ∈ cs, u.oneCell' = true := by
 unfold sp at k
 unfold ij
 split at k
 ·rename_i e
  rw [if_pos e]
  exact ⟨oL k, wA k⟩
 ·rename_i e
  rw [if_neg e]
  split at k
  ·rename_i e2
   rw [if_pos e2]
   cases h with
   | zero => exact k.elim
   | succ h =>
    obtain ⟨d0, d1, d2, d3, e, v1, ce, v2, b1, b2, b3, d4, rfl, rfl, r1, r2, r3⟩ := k
    obtain ⟨o1, c1, rfl, -⟩ := r1.form
    obtain ⟨o3, c3, rfl, -⟩ := r3.form
    refine ⟨by simp [oL r2], fun u hu => ?_⟩
    simp only [List.mem_append, List.mem_cons, List.not_mem_nil, or_false] at hu
    rcases hu with ((rfl | rfl) | hu) | rfl
    ·rfl
    ·rfl
    ·exact wA r2 u hu
    ·rfl
  ·rename_i e2
   rw [if_neg e2]
   cases h with
   | zero => exact k.elim
   | succ h =>
    obtain ⟨d0, d1, d2, d3, d5, e, v1, ce, b1, b2, d4, rfl, rfl, r1, r2⟩ := k
    obtain ⟨o1, c1, rfl, -⟩ := r1.form
    refine ⟨by simp [oL r2], fun u hu => ?_⟩
    simp only [List.mem_append, List.mem_cons, List.not_mem_nil, or_false] at hu
    rcases hu with (rfl | rfl) | hu
    ·rfl
    ·rfl
    ·exact wA r2 u hu
theorem TreeT.exp {w : World} {s u h : Nat} {x : Tr} {cs : List Value} (k : TreeT w s u h 0 x cs) : ∃ o1 c1 o2 c2 o3 c3, cs = [.int .i64 x.k, .string x.s, .int .i64 x.n, .slice o1 x.l.length c1, .slice o2 x.ds.length c2, .slice o3 x.al.length c3] := by
 obtain ⟨bs, k1, -⟩ := k
 have k2 : (eF w h).ex x cs bs := k1
 cases h with
 | zero => exact k2.elim
 | succ h =>
  obtain ⟨e0, e1, v1, v2, v3, b1, b2, b3, rfl, rfl, r1, r2, r3⟩ := k2
  obtain ⟨o1, c1, rfl, -⟩ := r1.form
  obtain ⟨o2, c2, rfl, -⟩ := r2.form
  obtain ⟨o3, c3, rfl, -⟩ := r3.form
  exact ⟨o1, c1, o2, c2, o3, c3, rfl⟩
theorem TreeT.reads {K : Nat -> Prop} {w : World} {s u h : Nat} {x : Tr} {cs : List Value} (k : TreeT w s u h 0 x cs) (hK : ∀ b, s <= b -> b < u -> K b) : (reads K w h).ex x cs := by
 obtain ⟨bs, k1, k2⟩ := k
 exact (vT h).1 _ _ bs (fun b hb => hK b (k2.2 b hb).1 (k2.2 b hb).2) k1
theorem oX {w w' : World} {s u u2 : Nat} {v v' : Value} {bss : List (List Nat)} {c : List Nat} (h : InR s u (ei v ++ bss.flatten)) (hc : InR u u2 c) (hu : s <= u) (rV : u <= u2) (hw : u2 <= w.heap.size) (hg : w.heap.size <= w'.heap.size) (hb : v'.ownBlock = v.ownBlock \/ v'.ownBlock = some w.heap.size) (hl : ∀ g ∈ ei v', g < w'.heap.size) : InR s w'.heap.size (ei v' ++ (bss ++ [c]).flatten) := by
 have e : (bss ++ [c]).flatten = bss.flatten ++ c := by simp
 rw [e]
 have cl : InR s u2 (ei v ++ bss.flatten ++ c) := h.app hc U0 hu rV
 rcases hb with e2 | e2
 ·have e3 : ei v' = ei v := by unfold ei; rw [e2]
  rw [e3, <- List.append_assoc]
  exact cl.wide U0 (by omega)
 ·have e3 : ei v' = [w.heap.size] := by unfold ei; rw [e2]; rfl
  rw [e3] at hl ⊢
  have h9 := hl _ (List.mem_singleton.2 rfl)
  have h8 : InR s u2 (bss.flatten ++ c) := by
   rw [List.append_assoc] at cl
   exact cl.right
  exact InR.comm (h8.app (InR.one U0 h9) hw (by omega) (by omega))
theorem RowT.put {P : Program} {T : TypeId} {i0 : TypeInfo} {z : Value} {bytes i : Nat} (hT : P.underlying T = some (.slice (ls i))) (hi : P.info? (ls i) = some i0) (hz : i0.zero = some z) (cI : i0.size = ij i) (Ci : i0.bytes = bytes) (hzs : z.cells.size = ij i) (h0 : 0 < ij i) (hb : bytes <= 1000)
 {w : World} {s u u2 h : Nat} {v : Value} {xs : List Tr} {x : Tr} {c : List Value} (k : RowT w s u h i v xs) (kx : TreeT w u u2 h i x c) (hu : s <= u) (rV : u <= u2) (hw : u2 <= w.heap.size) (hn : xs.length + 1 <= 1000000) :
 ∃ o n cp o' c' w', v = .slice o n cp /\ (Builtin.append_ #[T, T] T #[.slice o n cp, .slice (some ⟨w.heap.size, 0, none⟩) 1 1]).run P (w.alloc (.cells c.toArray (ls i))) = .ok (.slice o' (xs.length + 1) c') w' /\ RowT w' s w'.heap.size h i (.slice o' (xs.length + 1) c') (xs ++ [x]) /\ Keeps (fun b => b < w.heap.size /\ (b < s \/ u <= b)) w w' := by
 obtain ⟨bs, ⟨tp, css, bss, r1, r2, rfl⟩, k2⟩ := k
 obtain ⟨bx, kx1, kx2⟩ := kx
 obtain ⟨o, cp, e0, -⟩ := r1.form
 subst e0
 have ay : Below w.heap.size w (w.alloc (.cells c.toArray (ls i))) := (U4 w).alloc U0 _
 have cF : ∀ b ∈ ei (.slice o css.length cp) ++ bss.flatten, b < w.heap.size := fun b hb => by have := (k2.2 b hb).2; omega
 have r3 : Row (w.alloc (.cells c.toArray (ls i))) (ls i) (ij i) (.slice o css.length cp) css := r1.frame fun g hg => ay.block g (cF g (List.mem_append_left _ hg))
 obtain ⟨h1c, h1o⟩ := ic kx1
 obtain ⟨o', n', c', w', hr, hrow', lI, hbk⟩ := r3.append hT hi hz cI Ci hzs h0 hb (by rw [r2.len.1]; omega) (a := w.heap.size) (c := c) h1c (fun j u hu => by
  have h9 := Go.Proofs.YtfomndilhlgikajGreatDoor.cell_of (heap_alloc_new w (.cells c.toArray (ls i))) j
  rw [h9, List.getElem?_toArray]
  exact hu) h1o T
 have en : n' = xs.length + 1 := by
  obtain ⟨o9, c9, e9, -⟩ := hrow'.form
  simp only [Value.slice.injEq] at e9
  rw [e9.2.1, List.length_append, r2.len.1]
  rfl
 subst en
 have vf : ∀ b ∈ bss.flatten ++ bx, w'.heap[b]? = w.heap[b]? := fun b hb => by
  have au : b < w.heap.size := by
   rcases List.mem_append.1 hb with hb | hb
   ·exact cF b (List.mem_append_right _ hb)
   ·have := (kx2.2 b hb).2; omega
  refine (lI.block b (by simp; omega) fun e => ?_).trans (ay.block b au)
  have gA : b ∈ ei (.slice o css.length cp) := by unfold ei; rw [<- e]; exact List.mem_singleton.2 rfl
  rcases List.mem_append.1 hb with hb | hb
  ·exact (List.nodup_append.1 k2.1).2.2 b gA b hb rfl
  ·have h5 := (kx2.2 b hb).1
   have h6 := (k2.2 b (List.mem_append_left _ gA)).2
   omega
 refine ⟨o, _, cp, o', c', w', rfl, hr, ⟨_, ⟨by simp; omega, css ++ [c], bss ++ [bx], hrow', All3.snoc (r2.mono fun a b c hc k => kl k fun x hx => vf x (List.mem_append_left _ (List.mem_flatten.2 ⟨c, hc, hx⟩))) (kl kx1 fun x hx => vf x (List.mem_append_right _ hx)), rfl⟩, ?_⟩, ?_⟩
 ·refine oX (w := w.alloc (.cells c.toArray (ls i))) k2 kx2 hu rV (by simp; omega) lI.size hbk fun g hg => (hrow'.lt g hg).1
 ·refine ⟨lI.os.trans ay.os, lI.tape.trans ay.tape, lI.output.trans ay.output, Nat.le_trans ay.size lI.size, fun b hb => (lI.block b (by simp; omega) fun e => ?_).trans (ay.block b hb.1)⟩
  have gA : b ∈ ei (.slice o css.length cp) := by unfold ei; rw [<- e]; exact List.mem_singleton.2 rfl
  have h6 := k2.2 b (List.mem_append_left _ gA)
  omega
theorem StrT.put {P : Program} {T : TypeId} {i0 : TypeInfo} {z : Value} {bytes : Nat} (hT : P.underlying T = some (.slice 9)) (hi : P.info? 9 = some i0) (hz : i0.zero = some z) (cI : i0.size = 1) (Ci : i0.bytes = bytes) (hzs : z.cells.size = 1) (hb : bytes <= 1000)
 {w : World} {s u : Nat} {v : Value} {xs : List ByteArray} {t : ByteArray} (k : StrT w s u v xs) (ht : t.size <= maxLen) (hu : s <= u) (hw : u <= w.heap.size) (hn : xs.length + 1 <= 1000000) :
 ∃ o n cp o' c' w', v = .slice o n cp /\ (Builtin.append_ #[T, T] T #[.slice o n cp, .slice (some ⟨w.heap.size, 0, none⟩) 1 1]).run P (w.alloc (.cells #[.string t] 9)) = .ok (.slice o' (xs.length + 1) c') w' /\ StrT w' s w'.heap.size (.slice o' (xs.length + 1) c') (xs ++ [t]) /\ Keeps (fun b => b < w.heap.size /\ (b < s \/ u <= b)) w w' := by
 obtain ⟨bs, ⟨tp, css, bss, r1, r2, rfl⟩, k2⟩ := k
 obtain ⟨o, cp, e0, -⟩ := r1.form
 subst e0
 have ay : Below w.heap.size w (w.alloc (.cells #[.string t] 9)) := (U4 w).alloc U0 _
 have cF : ∀ b ∈ ei (.slice o css.length cp) ++ bss.flatten, b < w.heap.size := fun b hb => by have := (k2.2 b hb).2; omega
 have r3 : Row (w.alloc (.cells #[.string t] 9)) 9 1 (.slice o css.length cp) css := r1.frame fun g hg => ay.block g (cF g (List.mem_append_left _ hg))
 obtain ⟨o', n', c', w', hr, hrow', lI, hbk⟩ := r3.append hT hi hz cI Ci hzs (by decide) hb (by rw [r2.len.1]; omega) (a := w.heap.size) (c := [.string t]) rfl (fun j u hu => by
  have h9 := Go.Proofs.YtfomndilhlgikajGreatDoor.cell_of (heap_alloc_new w (.cells #[.string t] 9)) j
  rw [h9]
  simpa using hu) (fun u hu => by rw [List.mem_singleton] at hu; rw [hu]; rfl) T
 have en : n' = xs.length + 1 := by
  obtain ⟨o9, c9, e9, -⟩ := hrow'.form
  simp only [Value.slice.injEq] at e9
  rw [e9.2.1, List.length_append, r2.len.1]
  rfl
 subst en
 refine ⟨o, _, cp, o', c', w', rfl, hr, ⟨_, ⟨by simp; omega, css ++ [[.string t]], bss ++ [[]], hrow', All3.snoc (r2.mono fun a b c hc k => k) ⟨rfl, ht, rfl⟩, rfl⟩, ?_⟩, ?_⟩
 ·refine oX (w := w.alloc (.cells #[.string t] 9)) k2 (InR.nil u u) hu U0 (by simp; omega) lI.size hbk fun g hg => (hrow'.lt g hg).1
 ·refine ⟨lI.os.trans ay.os, lI.tape.trans ay.tape, lI.output.trans ay.output, Nat.le_trans ay.size lI.size, fun b hb => (lI.block b (by simp; omega) fun e => ?_).trans (ay.block b hb.1)⟩
  have gA : b ∈ ei (.slice o css.length cp) := by unfold ei; rw [<- e]; exact List.mem_singleton.2 rfl
  have h6 := k2.2 b (List.mem_append_left _ gA)
  omega
theorem RowT.lit1 {w : World} {s u u2 h i g : Nat} {x : Tr} {c : List Value} (kx : TreeT w s u h i x c) (hg : w.heap[g]? = some (.cells c.toArray (ls i) (0, 0))) (h1 : u <= g) (h2 : g < u2) (hs : s <= g) : RowT w s u2 h i (.slice (some ⟨g, 0, none⟩) 1 1) [x] := by
 obtain ⟨bx, kx1, kx2⟩ := kx
 have hr := Row.lit (w := w) (E := ls i) (sz := ij i) (g := g) [c] (fun d hd => by rw [List.mem_singleton] at hd; rw [hd]; exact (ic kx1).1) (by simpa using hg) (by simp)
 refine ⟨[g] ++ bx, ⟨by simp, [c], [bx], hr, ⟨kx1, trivial⟩, by simp [ei, Value.ownBlock]⟩, ?_⟩
 exact InR.comm (kx2.app (InR.one (Nat.le_refl g) h2) h1 hs (by omega))
theorem RowT.lit2 {w : World} {s u v u2 h i g : Nat} {x y : Tr} {c d : List Value} (kx : TreeT w s u h i x c) (ky : TreeT w u v h i y d) (hg : w.heap[g]? = some (.cells (c ++ d).toArray (ls i) (0, 0))) (h0 : s <= u) (h3 : u <= v) (h1 : v <= g) (h2 : g < u2) : RowT w s u2 h i (.slice (some ⟨g, 0, none⟩) 2 2) [x, y] := by
 obtain ⟨bx, kx1, kx2⟩ := kx
 obtain ⟨bY, ky1, ky2⟩ := ky
 have hr := Row.lit (w := w) (E := ls i) (sz := ij i) (g := g) [c, d] (fun e he => by
  simp only [List.mem_cons, List.not_mem_nil, or_false] at he
  rcases he with rfl | rfl
  ·exact (ic kx1).1
  ·exact (ic ky1).1) (by simpa using hg) (by simp)
 refine ⟨[g] ++ (bx ++ bY), ⟨by simp, [c, d], [bx, bY], hr, ⟨kx1, ky1, trivial⟩, by simp [ei, Value.ownBlock]⟩, ?_⟩
 exact InR.comm ((kx2.app ky2 U0 h0 h3).app (InR.one (Nat.le_refl g) h2) h1 (by omega) (by omega))
theorem RowT.lit3 {w : World} {s u v t u2 h i g : Nat} {x y z : Tr} {c d e : List Value} (kx : TreeT w s u h i x c) (ky : TreeT w u v h i y d) (kz : TreeT w v t h i z e) (hg : w.heap[g]? = some (.cells (c ++ d ++ e).toArray (ls i) (0, 0))) (h0 : s <= u) (h3 : u <= v) (h4 : v <= t) (h1 : t <= g) (h2 : g < u2) : RowT w s u2 h i (.slice (some ⟨g, 0, none⟩) 3 3) [x, y, z] := by
 obtain ⟨bx, kx1, kx2⟩ := kx
 obtain ⟨bY, ky1, ky2⟩ := ky
 obtain ⟨bz, kz1, kz2⟩ := kz
 have hr := Row.lit (w := w) (E := ls i) (sz := ij i) (g := g) [c, d, e] (fun f hf => by
  simp only [List.mem_cons, List.not_mem_nil, or_false] at hf
  rcases hf with rfl | rfl | rfl
  ·exact (ic kx1).1
  ·exact (ic ky1).1
  ·exact (ic kz1).1) (by simpa using hg) (by simp)
 refine ⟨[g] ++ (bx ++ bY ++ bz), ⟨by simp, [c, d, e], [bx, bY, bz], hr, ⟨kx1, ky1, kz1, trivial⟩, by simp [ei, Value.ownBlock]⟩, ?_⟩
 exact InR.comm (((kx2.app ky2 U0 h0 h3).app kz2 U0 (by omega) (by omega)).app (InR.one (Nat.le_refl g) h2) h1 (by omega) (by omega))
theorem StrT.lit1 {w : World} {s u2 g : Nat} {t : ByteArray} (ht : t.size <= maxLen) (hg : w.heap[g]? = some (.cells #[.string t] 9 (0, 0))) (h1 : s <= g) (h2 : g < u2) : StrT w s u2 (.slice (some ⟨g, 0, none⟩) 1 1) [t] := by
 have hr := Row.lit (w := w) (E := 9) (sz := 1) (g := g) [[.string t]] (fun e he => by rw [List.mem_singleton] at he; rw [he]; rfl) (by simpa using hg) (by simp)
 exact ⟨[g], ⟨by simp, [[.string t]], [[]], hr, ⟨⟨rfl, ht, rfl⟩, trivial⟩, by simp [ei, Value.ownBlock]⟩, InR.one h1 h2⟩
theorem nC {w : World} {s u1 u2 u3 h : Nat} {v1 v2 v3 : Value} {l ds al : List Tr} (k : Int) (t : ByteArray) (ht : t.size <= maxLen) (n : Int) (h1 : RowT w s u1 h 0 v1 l) (h2 : RowT w u1 u2 h 1 v2 ds) (h3 : RowT w u2 u3 h 2 v3 al) (e1 : s <= u1) (e2 : u1 <= u2) (e3 : u2 <= u3) : TreeT w s u3 (h + 1) 0 ⟨k, t, n, [], l, ds, al⟩ [.int .i64 k, .string t, .int .i64 n, v1, v2, v3] := by
 obtain ⟨b1, r1, i1⟩ := h1
 obtain ⟨b2, r2, i2⟩ := h2
 obtain ⟨b3, r3, i3⟩ := h3
 refine ⟨b1 ++ b2 ++ b3, ⟨rfl, ht, v1, v2, v3, b1, b2, b3, rfl, rfl, r1, r2, r3⟩, ?_⟩
 exact (i1.app i2 U0 e1 e2).app i3 U0 (by omega) (by omega)
theorem xE {w : World} {s u1 u2 u3 h : Nat} {v1 v2 v3 : Value} {l ds al : List Tr} (k : Int) (t : ByteArray) (ht : t.size <= maxLen) (n : Int) (h2 : RowT w s u1 h 1 v2 ds) (h1 : RowT w u1 u2 h 0 v1 l) (h3 : RowT w u2 u3 h 2 v3 al) (e1 : s <= u1) (e2 : u1 <= u2) (e3 : u2 <= u3) : TreeT w s u3 (h + 1) 0 ⟨k, t, n, [], l, ds, al⟩ [.int .i64 k, .string t, .int .i64 n, v1, v2, v3] := by
 obtain ⟨b1, r1, i1⟩ := h1
 obtain ⟨b2, r2, i2⟩ := h2
 obtain ⟨b3, r3, i3⟩ := h3
 refine ⟨b1 ++ b2 ++ b3, ⟨rfl, ht, v1, v2, v3, b1, b2, b3, rfl, rfl, r1, r2, r3⟩, ?_⟩
 exact (InR.comm (i2.app i1 U0 e1 e2)).app i3 U0 (by omega) (by omega)
theorem kR (w : World) (s u : Nat) (k : Int) (t : ByteArray) (ht : t.size <= maxLen) (n : Int) (hu : s <= u) : TreeT w s u 1 0 ⟨k, t, n, [], [], [], []⟩ [.int .i64 k, .string t, .int .i64 n, .slice none 0 0, .slice none 0 0, .slice none 0 0] :=
 (nC k t ht n (RowT.nil w s s 0 0) (RowT.nil w s s 0 1) (RowT.nil w s u 0 2) U0 U0 hu)
theorem vP {w : World} {s u1 u2 u3 h : Nat} {v1 v2 : Value} {ce : List Value} {ss : List ByteArray} {e : Tr} {ds : List Tr} (t : ByteArray) (ht : t.size <= maxLen) (h1 : StrT w s u1 v1 ss) (h2 : TreeT w u1 u2 h 0 e ce) (h3 : RowT w u2 u3 h 1 v2 ds) (e1 : s <= u1) (e2 : u1 <= u2) (e3 : u2 <= u3) : TreeT w s u3 (h + 1) 1 (ED t ss e ds) ([.string t, v1] ++ ce ++ [v2]) := by
 obtain ⟨b1, r1, i1⟩ := h1
 obtain ⟨b2, r2, i2⟩ := h2
 obtain ⟨b3, r3, i3⟩ := h3
 refine ⟨b1 ++ b2 ++ b3, ⟨rfl, rfl, rfl, ht, e, v1, ce, v2, b1, b2, b3, rfl, rfl, rfl, r1, r2, r3⟩, ?_⟩
 exact (i1.app i2 U0 e1 e2).app i3 U0 (by omega) (by omega)
theorem zS {w : World} {s u1 u2 h : Nat} {v1 : Value} {ce : List Value} {ss : List ByteArray} {e : Tr} (t : ByteArray) (ht : t.size <= maxLen) (h1 : StrT w s u1 v1 ss) (h2 : TreeT w u1 u2 h 0 e ce) (e1 : s <= u1) (e2 : u1 <= u2) : TreeT w s u2 (h + 1) 2 (GB t ss e) ([.string t, v1] ++ ce) := by
 obtain ⟨b1, r1, i1⟩ := h1
 obtain ⟨b2, r2, i2⟩ := h2
 refine ⟨b1 ++ b2, ⟨rfl, rfl, rfl, rfl, ht, e, v1, ce, b1, b2, rfl, rfl, rfl, r1, r2⟩, ?_⟩
 exact i1.app i2 U0 e1 e2
end Go.Proofs.YtfomndilhlgikajGreatDoor.Rd
namespace Go.Proofs.YtfomndilhlgikajGreatDoor.Mh
open Go.ChangeShapes Go.WideShapes Go.ChangeAt Go.RowKit
open Rd (RowS eF sp qq InR TreeT Row All3 ei)
set_option linter.unusedVariables false
theorem Er : ∀ (L : List (List Nat)), L.flatten.Nodup -> ∀ (i : Nat) (a : List Nat), L[i]? = some a -> a.Nodup := by
 intro L
 induction L with
 | nil => intro _ i a h; simp at h
 | cons l L ih =>
  intro h i a hi
  rw [List.flatten_cons] at h
  obtain ⟨h1, h2, h3⟩ := List.nodup_append.1 h
  cases i with
  | zero => cases hi; exact h1
  | succ i => exact ih h2 i a (by simpa using hi)
theorem Ep : ∀ (L : List (List Nat)), L.flatten.Nodup -> ∀ (i j : Nat) (a b : List Nat) (x : Nat), i ≠ j -> L[i]? = some a -> L[j]? = some b -> x ∈ a -> x ∈ b -> False := by
 intro L
 induction L with
 | nil => intro _ i j a b x _ h; simp at h
 | cons l L ih =>
  intro h i j a b x hij hi hj ha hb
  rw [List.flatten_cons] at h
  obtain ⟨h1, h2, h3⟩ := List.nodup_append.1 h
  cases i with
  | zero =>
   cases hi
   cases j with
   | zero => exact hij rfl
   | succ j => exact h3 x ha x (List.mem_flatten.2 ⟨b, List.mem_of_getElem? (by simpa using hj), hb⟩) rfl
  | succ i =>
   cases j with
   | zero =>
    cases hj
    exact h3 x hb x (List.mem_flatten.2 ⟨a, List.mem_of_getElem? (by simpa using hi), ha⟩) rfl
   | succ j => exact ih h2 i j a b x (by omega) (by simpa using hi) (by simpa using hj) ha hb
theorem Aa {α : Type} (f : α -> Nat) (xs : List α) : ∀ n, n <= xs.length -> jv (fun i => ((xs[i]?).map f).getD 0) n = ((xs.take n).map f).sum := by
 intro n
 induction n with
 | zero => intro _; rfl
 | succ n ih =>
  intro hn
  have h1 := ih (by omega)
  show jv _ n + ((xs[n]?).map f).getD 0 = _
  rw [h1, List.take_succ_eq_append_getElem (by omega), List.getElem?_eq_getElem (by omega), List.map_append, List.sum_append]
  simp only [Option.map_some, Option.getD_some, List.map_cons, List.map_nil, List.sum_cons, List.sum_nil, Nat.add_zero]
theorem RowS.sr {α : Type} {w : World} {R : α -> List Value -> List Nat -> Prop} {Rs : Nat -> Nat -> (Nat -> Prop) -> Nat -> Prop} {E : TypeId} {sz : Nat} {v : Value} {xs : List α} {bs : List Nat} (f : α -> Nat) (h : RowS w R E sz v xs bs) (hn : bs.Nodup) (hR : ∀ x cs b g p, R x cs b -> b.Nodup -> (∀ j u, cs[j]? = some u -> w.cell? ⟨g, p + j, none⟩ = some u) -> Rs g p (fun y => y ∈ b) (f x)) : SR sz Rs w (fun y => y ∈ bs) v ((xs.map f).sum) := by
 obtain ⟨o, cap, e, hf⟩ := h.form
 obtain ⟨h0, css, bss, h1, h2, rfl⟩ := h
 refine ⟨o, xs.length, cap, e, hf.1, fun nP => ?_⟩
 have zo : css ≠ [] := fun e2 => by
  have := h2.len.1
  rw [e2] at this
  simp at this
  omega
 obtain ⟨g, cap2, e3, hg, hc⟩ := h1.cell zo
 have UY := e3
 rw [e] at e3
 simp only [Value.slice.injEq] at e3
 obtain ⟨n1, n2, n3⟩ := List.nodup_append.1 hn
 obtain ⟨-, cc, zi⟩ := h1.lt g hg
 refine ⟨g, 0, fun i y => y ∈ (bss[i]?).getD [], fun i => ((xs[i]?).map f).getD 0, e3.1, List.mem_append_left _ hg, ⟨cc, E, zi⟩, fun i hi => ?_, fun i y hi hy => ?_, fun i j hi hj hij y h5 h6 => ?_, ?_⟩
 ·obtain ⟨b, c2, e1, e2, e4⟩ := h2.get i _ (List.getElem?_eq_getElem hi)
  have gF := hR _ b c2 g (0 + i * sz) e4 (Er bss n2 i c2 e2) fun j u hu => by
   rw [Nat.zero_add]
   exact hc i b j u e1 hu
  show Rs g (0 + i * sz) (fun y => y ∈ (bss[i]?).getD []) (((xs[i]?).map f).getD 0)
  rw [e2, List.getElem?_eq_getElem hi]
  exact gF
 ·obtain ⟨b, c2, e1, e2, e4⟩ := h2.get i _ (List.getElem?_eq_getElem hi)
  have wI : y ∈ c2 := by
   have My : y ∈ (bss[i]?).getD [] := hy
   rw [e2] at My
   exact My
  have PP : y ∈ bss.flatten := List.mem_flatten.2 ⟨c2, List.mem_of_getElem? e2, wI⟩
  exact ⟨List.mem_append_right _ PP, fun e9 => n3 g hg y PP e9.symm⟩
 ·obtain ⟨-, c2, -, e2, -⟩ := h2.get i _ (List.getElem?_eq_getElem hi)
  obtain ⟨-, c3, -, e4, -⟩ := h2.get j _ (List.getElem?_eq_getElem hj)
  have Qo : y ∈ (bss[i]?).getD [] := h5
  have Rc : y ∈ (bss[j]?).getD [] := h6
  rw [e2] at Qo
  rw [e4] at Rc
  exact Ep bss n2 i j c2 c3 y hij e2 e4 Qo Rc
 ·rw [Aa f xs xs.length U0, List.take_length]
  exact Nat.le_refl _
structure Mws where
 ex : Tr -> Nat
 de : Tr -> Nat
 al : Tr -> Nat
def lf : Nat -> Mws
 | 0 => ⟨fun _ => 0, fun _ => 0, fun _ => 0⟩
 | h + 1 => ⟨fun e => 3 + (e.l.map (lf h).ex).sum + (e.ds.map (lf h).de).sum + (e.al.map (lf h).al).sum, fun d => 1 + (d.ss.map fun _ => 1).sum + (d.l.map (lf h).ex).sum + (d.ds.map (lf h).de).sum, fun a => 1 + (a.ss.map fun _ => 1).sum + (a.l.map (lf h).ex).sum⟩
theorem xi {w : World} (x : ByteArray) (cs : List Value) (b : List Nat) (g p : Nat) (h : qq x cs b) (hb : b.Nodup) (hc : ∀ j u, cs[j]? = some u -> w.cell? ⟨g, p + j, none⟩ = some u) : ut w g p (fun y => y ∈ b) ((fun _ => 1) x) := by
 obtain ⟨rfl, -, -⟩ := h
 exact ⟨⟨x, hc 0 _ rfl⟩, Nat.le_refl _⟩
theorem Ef {w : World} : ∀ h, (∀ e cs b g p, (eF w h).ex e cs b -> b.Nodup -> (∀ j u, cs[j]? = some u -> w.cell? ⟨g, p + j, none⟩ = some u) -> (sh w h).ex g p (fun y => y ∈ b) ((lf h).ex e)) /\ (∀ e cs b g p, (eF w h).de e cs b -> b.Nodup -> (∀ j u, cs[j]? = some u -> w.cell? ⟨g, p + j, none⟩ = some u) -> (sh w h).de g p (fun y => y ∈ b) ((lf h).de e)) /\ (∀ e cs b g p, (eF w h).al e cs b -> b.Nodup -> (∀ j u, cs[j]? = some u -> w.cell? ⟨g, p + j, none⟩ = some u) -> (sh w h).al g p (fun y => y ∈ b) ((lf h).al e)) := by
 intro h
 induction h with
 | zero => exact ⟨fun _ _ _ _ _ h _ _ => h.elim, fun _ _ _ _ _ h _ _ => h.elim, fun _ _ _ _ _ h _ _ => h.elim⟩
 | succ h ih =>
  obtain ⟨i1, i2, i3⟩ := ih
  refine ⟨fun e cs b g p hx hn hc => ?_, fun e cs b g p hx hn hc => ?_, fun e cs b g p hx hn hc => ?_⟩
  ·obtain ⟨e0, e1, v1, v2, v3, b1, b2, b3, rfl, rfl, r1, r2, r3⟩ := hx
   obtain ⟨n12, n3, n4⟩ := List.nodup_append.1 hn
   obtain ⟨n1, n2, n5⟩ := List.nodup_append.1 n12
   exact ⟨_, _, _, v1, v2, v3, (fun y => y ∈ b1), (fun y => y ∈ b2), (fun y => y ∈ b3), _, _, _, hc 0 _ rfl, hc 1 _ rfl, hc 2 _ rfl, hc 3 _ rfl, hc 4 _ rfl, hc 5 _ rfl, RowS.sr (lf h).ex r1 n1 i1, RowS.sr (lf h).de r2 n2 i2, RowS.sr (lf h).al r3 n3 i3, fun x hx => by simpa [or_assoc] using hx, fun x h1 h2 => n5 x h1 x h2 rfl, fun x h1 h2 => n4 x (List.mem_append_left _ h1) x h2 rfl, fun x h1 h2 => n4 x (List.mem_append_right _ h1) x h2 rfl, Nat.le_refl _⟩
  ·obtain ⟨d0, d1, d2, d3, e, v1, ce, v2, b1, b2, b3, d4, rfl, rfl, r1, r2, r3⟩ := hx
   obtain ⟨n12, n3, n4⟩ := List.nodup_append.1 hn
   obtain ⟨n1, n2, n5⟩ := List.nodup_append.1 n12
   have hl : ce.length = 6 := by
    cases h with
    | zero => exact r2.elim
    | succ h => obtain ⟨-, -, _, _, _, _, _, _, rfl, -⟩ := r2; rfl
   refine ⟨_, v1, v2, (fun y => y ∈ b1), (fun y => y ∈ b2), (fun y => y ∈ b3), _, _, _, hc 0 _ rfl, hc 1 _ rfl, hc 8 _ ?_, RowS.sr (fun _ => 1) r1 n1 xi, i1 e ce b2 g (p + 2) r2 n2 fun j u hu => ?_, RowS.sr (lf h).de r3 n3 i2, fun x hx => by simpa [or_assoc] using hx, fun x h1 h2 => n5 x h1 x h2 rfl, fun x h1 h2 => n4 x (List.mem_append_left _ h1) x h2 rfl, fun x h1 h2 => n4 x (List.mem_append_right _ h1) x h2 rfl, ?_⟩
   ·rw [List.getElem?_append_right (by simp [hl])]
    simp [hl]
   ·have hj := (List.getElem?_eq_some_iff.1 hu).1
    have := hc (2 + j) u (by
     rw [List.getElem?_append_left (by simp [hl]; omega), List.getElem?_append_right (by simp)]
     simpa using hu)
    rw [<- Nat.add_assoc] at this
    exact this
   ·show _ <= 1 + _ + (List.map (lf h).ex _).sum + _
    rw [d4]
    simp
  ·obtain ⟨d0, d1, d2, d2', d3, e, v1, ce, b1, b2, d4, rfl, rfl, r1, r2⟩ := hx
   obtain ⟨n1, n2, n5⟩ := List.nodup_append.1 hn
   refine ⟨_, v1, (fun y => y ∈ b1), (fun y => y ∈ b2), _, _, hc 0 _ rfl, hc 1 _ rfl, RowS.sr (fun _ => 1) r1 n1 xi, i1 e ce b2 g (p + 2) r2 n2 fun j u hu => ?_, fun x hx => by simpa using hx, fun x h1 h2 => n5 x h1 x h2 rfl, ?_⟩
   ·have := hc (2 + j) u (by
     rw [List.getElem?_append_right (by simp)]
     simpa using hu)
    rw [<- Nat.add_assoc] at this
    exact this
   ·show _ <= 1 + _ + (List.map (lf h).ex _).sum
    rw [d4]
    simp
end Go.Proofs.YtfomndilhlgikajGreatDoor.Mh
