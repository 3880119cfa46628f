/- Made of JC, QD. -/
import Derived.Test.YtgeckgdmkjddpaaQ05
import Derived.Test.YtgeckgdmkjddpaaXF
namespace Go.Proofs.Ytgeckgdmkjddpaa.Br
open Go.ChangeShapes Go.WideShapes Go.ChangeAt Go.RowKit Go.Proofs.Ytgeckgdmkjddpaa.Rd

def lams : List ByteArray → Tr → Tr
  | [], e => e
  | s :: r, e => ⟨5, s, 0, [], [lams r e], [], []⟩
def wlet (ds : List Tr) (e : Tr) : Tr := if ds.isEmpty then e else ⟨6, ⟨#[]⟩, 0, [], [e], ds, []⟩
structure Brs where
  ex : Tr → Tr
  de : Tr → Tr
  al : Tr → Tr
/-- What is bare of a tree: of an expression, of a definition (what it stands for), of an alternative. -/
def brs : Nat → Brs
  | 0 => ⟨fun e => e, fun e => e, fun e => e⟩
  | h + 1 => ⟨fun e => ⟨e.k, e.s, e.n, [], e.l.map (brs h).ex, e.ds.map (fun d => tDec d.s [] ((brs h).de d) []), e.al.map (brs h).al⟩,
    fun d => lams d.ss (wlet (d.ds.map (fun d => tDec d.s [] ((brs h).de d) [])) ((d.l.map (brs h).ex).headD d)),
    fun a => tAlt a.s a.ss ((a.l.map (brs h).ex).headD a)⟩

theorem rowS_put {T : TypeId} {i bytes : Nat} (hI : (Try.prog.info? (tyK i)).map (fun i => (i.zero.map (·.cells.size), i.size, i.bytes)) = some (some (lenK i), lenK i, bytes)) (hT : Try.prog.underlying T = some (.slice (tyK i))) (h0 : 0 < lenK i) (hb : bytes ≤ 1000)
    {w : World} {h : Nat} {v : Value} {xs : List Tr} {x : Tr} {c : List Value} {bs bx : List Nat} (k : RowS w (sp w h i) (tyK i) (lenK i) v xs bs) (kx : sp w h i x c bx) (hnd : (bs ++ bx).Nodup) (hlt : ∀ b ∈ bs ++ bx, b < w.heap.size) (hn : xs.length + 1 ≤ 4000000) :
    ∃ o n cp o' c' w' bs', v = .slice o n cp ∧ (Builtin.append_ #[T, T] T #[.slice o n cp, .slice (some ⟨w.heap.size, 0, none⟩) 1 1]).run Try.prog (w.alloc (.cells c.toArray (tyK i))) = .ok (.slice o' (xs.length + 1) c') w' ∧ RowS w' (sp w' h i) (tyK i) (lenK i) (.slice o' (xs.length + 1) c') (xs ++ [x]) bs' ∧ bs'.Nodup ∧ (∀ b ∈ bs', b ∈ bs ∨ b ∈ bx ∨ (w.heap.size ≤ b ∧ b < w'.heap.size)) ∧ Keeps (fun b => b < w.heap.size ∧ b ∉ bs) w w' := by
  obtain ⟨i0, hi, he⟩ := Option.map_eq_some_iff.1 hI
  simp only [Prod.mk.injEq] at he
  obtain ⟨z, hz, hzs⟩ := Option.map_eq_some_iff.1 he.1
  obtain ⟨hln, css, bss, r1, r2, rfl⟩ := k
  obtain ⟨o, cp, e0, -⟩ := r1.form
  subst e0
  have hbl : Below w.heap.size w (w.alloc (.cells c.toArray (tyK i))) := (Below.refl _ w).alloc (Nat.le_refl _) _
  have r3 : Row (w.alloc (.cells c.toArray (tyK i))) (tyK i) (lenK i) (.slice o css.length cp) css := r1.frame fun g hg => hbl.block g (hlt g (List.mem_append_left _ (List.mem_append_left _ hg)))
  obtain ⟨h1c, h1o⟩ := sp_one kx
  obtain ⟨o', n', c', w', hr, hrow', hgr, hbk⟩ := r3.append hT hi hz he.2.1 he.2.2 hzs h0 hb (by rw [r2.len.1]; omega) (a := w.heap.size) (c := c) h1c (fun j u hu => by
    have h9 := Go.Proofs.Ytgeckgdmkjddpaa.cell_of (heap_alloc_new w (.cells c.toArray (tyK i))) j
    rw [h9, List.getElem?_toArray]
    exact hu) h1o T
  have en : n' = xs.length + 1 := by
    obtain ⟨o9, c9, e9, -⟩ := hrow'.form
    simp only [Value.slice.injEq] at e9
    rw [e9.2.1, List.length_append, r2.len.1]
    rfl
  subst en
  rw [List.append_assoc] at hnd
  obtain ⟨n1, n2, n3⟩ := List.nodup_append.1 hnd
  have hsz : (w.alloc (.cells c.toArray (tyK i))).heap.size = w.heap.size + 1 := by simp
  have hsame : ∀ b ∈ bss.flatten ++ bx, w'.heap[b]? = w.heap[b]? := fun b hb => by
    have hl : b < w.heap.size := hlt b (by rw [List.append_assoc]; exact List.mem_append_right _ hb)
    refine (hgr.block b (by rw [hsz]; omega) fun e => ?_).trans (hbl.block b hl)
    have hin : b ∈ ownL (.slice o css.length cp) := by unfold ownL; rw [← e]; exact List.mem_singleton.2 rfl
    exact n3 b hin b hb rfl
  have e : (bss ++ [bx]).flatten = bss.flatten ++ bx := by simp
  refine ⟨o, _, cp, o', c', w', _, rfl, hr, ⟨by simp; omega, css ++ [c], bss ++ [bx], hrow', All3.snoc (r2.mono fun a b c hc k => sp_frame k fun x hx => hsame x (List.mem_append_left _ (List.mem_flatten.2 ⟨c, hc, hx⟩))) (sp_frame kx fun x hx => hsame x (List.mem_append_right _ hx)), rfl⟩, ?_, ?_, ?_⟩
  · rw [e]
    rcases hbk with e2 | e2
    · have e3 : ownL (.slice o' (xs.length + 1) c') = ownL (.slice o css.length cp) := by unfold ownL; rw [e2]
      rw [e3]
      exact hnd
    · have e3 : ownL (.slice o' (xs.length + 1) c') = [w.heap.size + 1] := by unfold ownL; rw [e2, hsz]; rfl
      rw [e3]
      refine List.nodup_append.2 ⟨by simp, n2, fun a ha b hb e => ?_⟩
      rw [List.mem_singleton] at ha
      have hl : b < w.heap.size := hlt b (by rw [List.append_assoc]; exact List.mem_append_right _ hb)
      omega
  · intro b hb
    rw [e] at hb
    rcases List.mem_append.1 hb with hb | hb
    · rcases hbk with e2 | e2
      · have e3 : ownL (.slice o' (xs.length + 1) c') = ownL (.slice o css.length cp) := by unfold ownL; rw [e2]
        rw [e3] at hb
        exact .inl (List.mem_append_left _ hb)
      · have e3 : ownL (.slice o' (xs.length + 1) c') = [w.heap.size + 1] := by unfold ownL; rw [e2, hsz]; rfl
        have := (hrow'.lt b hb).1
        rw [e3, List.mem_singleton] at hb
        exact .inr (.inr ⟨by omega, this⟩)
    · rcases List.mem_append.1 hb with hb | hb
      · exact .inl (List.mem_append_right _ hb)
      · exact .inr (.inl hb)
  · refine ⟨hgr.os.trans hbl.os, hgr.tape.trans hbl.tape, hgr.output.trans hbl.output, Nat.le_trans hbl.size hgr.size, fun b hb => (hgr.block b (by rw [hsz]; omega) fun e => ?_).trans (hbl.block b hb.1)⟩
    have hin : b ∈ ownL (.slice o css.length cp) := by unfold ownL; rw [← e]; exact List.mem_singleton.2 rfl
    exact hb.2 (List.mem_append_left _ hin)

/-- Three rows of an expression that lies in a box g, from s on, ahead of u, none of their blocks g. -/
def Bx (g : Nat) (w : World) (s u h : Nat) (l ds al : List Tr) (v1 v2 v3 : Value) : Prop := ∃ b1 b2 b3, RowS w (sp w h 0) 32 6 v1 l b1 ∧ RowS w (sp w h 1) 44 9 v2 ds b2 ∧ RowS w (sp w h 2) 54 8 v3 al b3 ∧ InR s u (b1 ++ b2 ++ b3) ∧ g ∉ b1 ++ b2 ++ b3
theorem Bx.up {g : Nat} {w : World} {s u u' h h' : Nat} {l ds al : List Tr} {v1 v2 v3 : Value} (k : Bx g w s u h l ds al v1 v2 v3) (hu : u ≤ u') (hh : h ≤ h') : Bx g w s u' h' l ds al v1 v2 v3 := by
  obtain ⟨b1, b2, b3, r1, r2, r3, k1, k2⟩ := k
  exact ⟨b1, b2, b3, r1.frame (fun _ _ => rfl) fun _ _ _ _ k => sp_up hh k, r2.frame (fun _ _ => rfl) fun _ _ _ _ k => sp_up hh k, r3.frame (fun _ _ => rfl) fun _ _ _ _ k => sp_up hh k, k1.wide (Nat.le_refl _) hu, k2⟩
theorem Bx.keep {g : Nat} {w w' : World} {s u h : Nat} {l ds al : List Tr} {v1 v2 v3 : Value} (k : Bx g w s u h l ds al v1 v2 v3) (hk : ∀ b, s ≤ b → b < u → b ≠ g → w'.heap[b]? = w.heap[b]?) : Bx g w' s u h l ds al v1 v2 v3 := by
  obtain ⟨b1, b2, b3, r1, r2, r3, k1, k2⟩ := k
  have hb : ∀ b ∈ b1 ++ b2 ++ b3, w'.heap[b]? = w.heap[b]? := fun b hb => hk b (k1.2 b hb).1 (k1.2 b hb).2 fun e => k2 (e ▸ hb)
  exact ⟨b1, b2, b3, r1.frame (fun b h => hb b (by simp [h])) fun _ _ _ hb2 k => sp_frame k fun x hx => hb x (by simp [hb2 x hx]), r2.frame (fun b h => hb b (by simp [h])) fun _ _ _ hb2 k => sp_frame k fun x hx => hb x (by simp [hb2 x hx]), r3.frame (fun b h => hb b (by simp [h])) fun _ _ _ hb2 k => sp_frame k fun x hx => hb x (by simp [hb2 x hx]), k1, k2⟩
theorem Bx.tree {g : Nat} {w : World} {s u h : Nat} {l ds al : List Tr} {v1 v2 v3 : Value} (k : Bx g w s u h l ds al v1 v2 v3) (z : Int) (t : ByteArray) (n : Int) (ht : t.size ≤ maxLen) : TreeT w s u (h + 1) 0 ⟨z, t, n, [], l, ds, al⟩ [.int .i64 z, .string t, .int .i64 n, v1, v2, v3] := by
  obtain ⟨b1, b2, b3, r1, r2, r3, k1, k2⟩ := k
  exact ⟨b1 ++ b2 ++ b3, ⟨rfl, ht, v1, v2, v3, b1, b2, b3, rfl, rfl, r1, r2, r3⟩, k1⟩
theorem Bx.form {g : Nat} {w : World} {s u h : Nat} {l ds al : List Tr} {v1 v2 v3 : Value} (k : Bx g w s u h l ds al v1 v2 v3) : (∃ o c, v1 = .slice o l.length c) ∧ (∃ o c, v2 = .slice o ds.length c) ∧ ∃ o c, v3 = .slice o al.length c := by
  obtain ⟨b1, b2, b3, r1, r2, r3, k1, k2⟩ := k
  obtain ⟨o1, c1, e1, -⟩ := r1.form
  obtain ⟨o2, c2, e2, -⟩ := r2.form
  obtain ⟨o3, c3, e3, -⟩ := r3.form
  exact ⟨⟨o1, c1, e1⟩, ⟨o2, c2, e2⟩, ⟨o3, c3, e3⟩⟩
/-- A row of definitions alone, beside a box. -/
theorem Bx.decs {g : Nat} {w : World} {s u h : Nat} {ds : List Tr} {v : Value} (k : RowT w s u h 1 v ds) (hg : g < s ∨ u ≤ g) : Bx g w s u h [] ds [] (.slice none 0 0) v (.slice none 0 0) := by
  obtain ⟨bs, k1, k2⟩ := k
  exact ⟨[], bs, [], RowS.nil _ _ _ _, k1, RowS.nil _ _ _ _, by simpa using k2, fun hm => by have := k2.2 g (by simpa using hm); omega⟩
theorem exp_infoB : (Try.prog.info? 32).map (fun i => (i.zero.map (·.cells.size), i.size, i.bytes)) = some (some 6, 6, 104) := by kernel_rfl
theorem dec_infoB : (Try.prog.info? 44).map (fun i => (i.zero.map (·.cells.size), i.size, i.bytes)) = some (some 9, 9, 168) := by kernel_rfl
theorem alt_infoB : (Try.prog.info? 54).map (fun i => (i.zero.map (·.cells.size), i.size, i.bytes)) = some (some 8, 8, 144) := by kernel_rfl
theorem putB {T : TypeId} {i bytes : Nat} (hI : (Try.prog.info? (tyK i)).map (fun i => (i.zero.map (·.cells.size), i.size, i.bytes)) = some (some (lenK i), lenK i, bytes)) (hT : Try.prog.underlying T = some (.slice (tyK i))) (h0 : 0 < lenK i) (hb : bytes ≤ 1000)
    {w : World} {s u u2 h h' : Nat} {v : Value} {xs : List Tr} {x : Tr} {c : List Value} (k : RowT w s u h i v xs) (kx : TreeT w u u2 h' i x c) (hu : s ≤ u) (hu2 : u ≤ u2) (hw : u2 ≤ w.heap.size) (hn : xs.length + 1 ≤ 4000000) :
    ∃ o n cp o' c' w', v = .slice o n cp ∧ (Builtin.append_ #[T, T] T #[.slice o n cp, .slice (some ⟨w.heap.size, 0, none⟩) 1 1]).run Try.prog (w.alloc (.cells c.toArray (tyK i))) = .ok (.slice o' (xs.length + 1) c') w' ∧ RowT w' s w'.heap.size (h + h') i (.slice o' (xs.length + 1) c') (xs ++ [x]) ∧ Keeps (fun b => b < w.heap.size ∧ (b < s ∨ u ≤ b)) w w' := by
  obtain ⟨i0, hi, he⟩ := Option.map_eq_some_iff.1 hI
  simp only [Prod.mk.injEq] at he
  obtain ⟨z, hz, hzs⟩ := Option.map_eq_some_iff.1 he.1
  exact (k.up (Nat.le_refl _) (Nat.le_refl _) (Nat.le_add_right h h')).put hT hi hz he.2.1 he.2.2 hzs h0 hb (kx.up (Nat.le_refl _) (Nat.le_refl _) (Nat.le_add_left h' h)) hu hu2 hw hn
/-- Blocks of which one list was put anew: none twice, all from s on. -/
theorem inR_new {s u m u' : Nat} {a b bn bx : List Nat} (h : InR s u (a ++ b)) (hn : bn.Nodup) (hm : ∀ x ∈ bn, x ∈ b ∨ x ∈ bx ∨ (m ≤ x ∧ x < u')) (hx : ∀ x ∈ bx, u ≤ x ∧ x < m) (hu : s ≤ u) (hum : u ≤ m) (hmu : m ≤ u') : InR s u' (a ++ bn) := by
  obtain ⟨n1, n2, n3⟩ := List.nodup_append.1 h.1
  refine ⟨List.nodup_append.2 ⟨n1, hn, fun x hxa y hyb e => ?_⟩, fun x hxx => ?_⟩
  · have h1 := h.2 x (List.mem_append_left _ hxa)
    rcases hm y hyb with h2 | h2 | h2
    · exact n3 x hxa y h2 e
    · have := hx y h2; omega
    · omega
  · rcases List.mem_append.1 hxx with h1 | h1
    · have := h.2 x (List.mem_append_left _ h1); omega
    · rcases hm x h1 with h2 | h2 | h2
      · have := h.2 x (List.mem_append_right _ h2); omega
      · have := hx x h2; omega
      · omega
theorem nodup_put {s u m : Nat} {b bx : List Nat} (h : InR s u b) (hx : InR u m bx) : (b ++ bx).Nodup := List.nodup_append.2 ⟨h.1, hx.1, fun x h1 y h2 e => by have := (h.2 x h1).2; have := (hx.2 y h2).1; omega⟩
theorem Bx.putL {g : Nat} {W : World} {s u h h' : Nat} {l ds al : List Tr} {v1 v2 v3 : Value} {x : Tr} {c : List Value} (k : Bx g W s u h l ds al v1 v2 v3) (kx : TreeT W u W.heap.size h' 0 x c) (hs : s ≤ u) (hu : u ≤ W.heap.size) (hg : g < u) (hn : l.length + 1 ≤ 4000000) :
    ∃ o cp o' c' w', v1 = .slice o l.length cp ∧ (Builtin.append_ #[28, 28] 28 #[.slice o l.length cp, .slice (some ⟨W.heap.size, 0, none⟩) 1 1]).run Try.prog (W.alloc (.cells c.toArray 32)) = .ok (.slice o' (l.length + 1) c') w' ∧ Bx g w' s w'.heap.size (h + h') (l ++ [x]) ds al (.slice o' (l.length + 1) c') v2 v3 ∧ Keeps (fun b => b < W.heap.size ∧ (b < s ∨ b = g)) W w' := by
  obtain ⟨b1, b2, b3, r1, r2, r3, k1, k2⟩ := k.up (Nat.le_refl _) (Nat.le_add_right h h')
  obtain ⟨bx, x1, x2⟩ := kx.up (Nat.le_refl _) (Nat.le_refl _) (Nat.le_add_left h' h)
  obtain ⟨o0, c0, e0, -⟩ := r1.form
  have i1 : InR s u b1 := k1.left.left
  have hp : ∀ b, b ∈ b1 ++ b2 ++ b3 ↔ b ∈ (b2 ++ b3) ++ b1 := fun b => by simp only [List.mem_append]; exact ⟨fun h => by rcases h with (h | h) | h <;> simp [h], fun h => by rcases h with (h | h) | h <;> simp [h]⟩
  have i2 : InR s u ((b2 ++ b3) ++ b1) := by rw [List.append_assoc] at k1; exact k1.comm
  obtain ⟨o, n, cp, o', c', w', bn, e1, hr, hrow, hnd, hmem, hkeep⟩ := rowS_put (i := 0) exp_infoB Try.underlying28 (by decide) (by decide) r1 x1 (nodup_put i1 x2) (fun b hb => by
    rcases List.mem_append.1 hb with hb | hb
    · have := (i1.2 b hb).2; omega
    · exact (x2.2 b hb).2) hn
  rw [e0] at e1
  simp only [Value.slice.injEq] at e1
  obtain ⟨rfl, rfl, rfl⟩ := e1
  have i3 := inR_new i2 hnd hmem (fun x hx => x2.2 x hx) hs hu hkeep.size
  have hk2 : ∀ b ∈ b2 ++ b3, w'.heap[b]? = W.heap[b]? := fun b hb => hkeep.block b ⟨by have := (i2.2 b (List.mem_append_left _ hb)).2; omega, fun h1 => (List.nodup_append.1 i2.1).2.2 b hb b h1 rfl⟩
  refine ⟨o0, c0, o', c', w', e0, hr, ⟨bn, b2, b3, hrow, r2.frame (fun b h => hk2 b (by simp [h])) fun _ _ _ hb2 k => sp_frame k fun x hx => hk2 x (by simp [hb2 x hx]), r3.frame (fun b h => hk2 b (by simp [h])) fun _ _ _ hb2 k => sp_frame k fun x hx => hk2 x (by simp [hb2 x hx]), ?_, ?_⟩, ?_⟩
  · rw [List.append_assoc]
    exact i3.comm
  · intro hm
    rw [List.append_assoc] at hm
    rcases List.mem_append.1 hm with hm | hm
    · rcases hmem g hm with h1 | h1 | h1
      · exact k2 (by simp [h1])
      · have := (x2.2 g h1).1; omega
      · omega
    · exact k2 (by rw [List.append_assoc]; exact List.mem_append_right _ hm)
  · exact hkeep.mono fun b hb => ⟨hb.1, fun h1 => by
      rcases hb.2 with h2 | h2
      · have := (i1.2 b h1).1; omega
      · subst h2; exact k2 (by simp [h1])⟩
theorem Bx.putA {g : Nat} {W : World} {s u h h' : Nat} {l ds al : List Tr} {v1 v2 v3 : Value} {x : Tr} {c : List Value} (k : Bx g W s u h l ds al v1 v2 v3) (kx : TreeT W u W.heap.size h' 2 x c) (hs : s ≤ u) (hu : u ≤ W.heap.size) (hg : g < u) (hn : al.length + 1 ≤ 4000000) :
    ∃ o cp o' c' w', v3 = .slice o al.length cp ∧ (Builtin.append_ #[30, 30] 30 #[.slice o al.length cp, .slice (some ⟨W.heap.size, 0, none⟩) 1 1]).run Try.prog (W.alloc (.cells c.toArray 54)) = .ok (.slice o' (al.length + 1) c') w' ∧ Bx g w' s w'.heap.size (h + h') l ds (al ++ [x]) v1 v2 (.slice o' (al.length + 1) c') ∧ Keeps (fun b => b < W.heap.size ∧ (b < s ∨ b = g)) W w' := by
  obtain ⟨b1, b2, b3, r1, r2, r3, k1, k2⟩ := k.up (Nat.le_refl _) (Nat.le_add_right h h')
  obtain ⟨bx, x1, x2⟩ := kx.up (Nat.le_refl _) (Nat.le_refl _) (Nat.le_add_left h' h)
  obtain ⟨o0, c0, e0, -⟩ := r3.form
  have i1 : InR s u b3 := k1.right
  obtain ⟨o, n, cp, o', c', w', bn, e1, hr, hrow, hnd, hmem, hkeep⟩ := rowS_put (i := 2) alt_infoB Try.underlying30 (by decide) (by decide) r3 x1 (nodup_put i1 x2) (fun b hb => by
    rcases List.mem_append.1 hb with hb | hb
    · have := (i1.2 b hb).2; omega
    · exact (x2.2 b hb).2) hn
  rw [e0] at e1
  simp only [Value.slice.injEq] at e1
  obtain ⟨rfl, rfl, rfl⟩ := e1
  have i3 := inR_new k1 hnd hmem (fun x hx => x2.2 x hx) hs hu hkeep.size
  have hk2 : ∀ b ∈ b1 ++ b2, w'.heap[b]? = W.heap[b]? := fun b hb => hkeep.block b ⟨by have := (k1.2 b (List.mem_append_left _ hb)).2; omega, fun h1 => (List.nodup_append.1 k1.1).2.2 b hb b h1 rfl⟩
  refine ⟨o0, c0, o', c', w', e0, hr, ⟨b1, b2, bn, r1.frame (fun b h => hk2 b (by simp [h])) fun _ _ _ hb2 k => sp_frame k fun x hx => hk2 x (by simp [hb2 x hx]), r2.frame (fun b h => hk2 b (by simp [h])) fun _ _ _ hb2 k => sp_frame k fun x hx => hk2 x (by simp [hb2 x hx]), hrow, i3, ?_⟩, ?_⟩
  · intro hm
    rcases List.mem_append.1 hm with hm | hm
    · exact k2 (List.mem_append_left _ hm)
    · rcases hmem g hm with h1 | h1 | h1
      · exact k2 (List.mem_append_right _ h1)
      · have := (x2.2 g h1).1; omega
      · omega
  · exact hkeep.mono fun b hb => ⟨hb.1, fun h1 => by
      rcases hb.2 with h2 | h2
      · have := (i1.2 b h1).1; omega
      · subst h2; exact k2 (List.mem_append_right _ h1)⟩
/-- An owned row of names is one in new memory. -/
theorem NRow.strT {B : Nat} {w : World} {v : Value} {l : List ByteArray} (h : Nm.NRow B w v l) (hn : l.length ≤ 4000000) : StrT w B w.heap.size v l := by
  refine ⟨ownL v, ⟨hn, l.map (fun s => [.string s]), l.map (fun _ => []), ⟨fun c hc => ?_, ?_⟩, ?_, ?_⟩, ?_, fun b hb => ?_⟩
  · obtain ⟨s, -, rfl⟩ := List.mem_map.1 hc; rfl
  · have e : (l.map (fun s => [Value.string s])).flatten = l.map Value.string := by
      clear h hn
      induction l with
      | nil => rfl
      | cons a r ih => simp [ih]
    rw [e, List.length_map]
    exact (h.base (Nat.zero_le _)).1
  · have h2 := h.2.1
    clear h hn
    induction l with
    | nil => exact trivial
    | cons a r ih => exact ⟨⟨rfl, h2 a (by simp), rfl⟩, ih fun s hs => h2 s (by simp [hs])⟩
  · have e : (l.map (fun _ => ([] : List Nat))).flatten = [] := by simp
    rw [e, List.append_nil]
  · unfold ownL
    cases v.ownBlock <;> simp
  · unfold ownL at hb
    have hb2 : v.ownBlock = some b := by simpa using hb
    have := h.lt b hb2
    omega
/-- An alternative, its names ahead of its body in the memory or behind it. -/
theorem mk_altR {w : World} {s u1 u2 h : Nat} {v1 : Value} {ce : List Value} {ss : List ByteArray} {e : Tr} (t : ByteArray) (ht : t.size ≤ maxLen) (h2 : TreeT w s u1 h 0 e ce) (h1 : StrT w u1 u2 v1 ss) (e1 : s ≤ u1) (e2 : u1 ≤ u2) : TreeT w s u2 (h + 1) 2 (tAlt t ss e) ([.string t, v1] ++ ce) := by
  obtain ⟨b1, r1, i1⟩ := h1
  obtain ⟨b2, r2, i2⟩ := h2
  refine ⟨b1 ++ b2, ⟨rfl, rfl, rfl, rfl, ht, e, v1, ce, b1, b2, rfl, rfl, rfl, r1, r2⟩, ?_⟩
  exact (i2.app i1 (Nat.le_refl _) e1 e2).comm
end Go.Proofs.Ytgeckgdmkjddpaa.Br
namespace Go.Proofs.Ytgeckgdmkjddpaa
open Go.RowKit

/-- An operation that only reads. -/
def readB (o : Oper) : Bool := match o.op with
  | .move _ | .assign _ | .pick _ _ _ | .load _ _ | .nilCheck _ | .binOp _ _ _ _ _ | .unOp _ _ _ | .fieldAddr _ _ _ | .indexAddr _ _ _ | .build _ _ => true
  | _ => false
theorem run_value {P : Program} {w w' : World} {f : FuncId} {args : Array Value} (s : Sem Value) : ((do let x ← s; pure (.value x) : Sem Next)).run P w ≠ .ok (.enter f args) w' := by
  rw [Sem.run_bind]
  cases s.run P w with
  | ok x w1 => simp [Result.andThen_ok, Sem.run_pure]
  | halt x w1 => intro h; cases h
theorem read_enter {P : Program} {o : Oper} (h : readB o = true) (ρ : Operand → Value) (w w' : World) (f : FuncId) (args : Array Value) : (execOp ρ o).run P w ≠ .ok (.enter f args) w' := by
  obtain ⟨dst, op, type, pos, after, guard⟩ := o
  cases op <;> simp only [readB] at h <;> first | (cases h; done) | skip
  case move x => simp [execOp, Sem.run_pure]
  case assign x => simp [execOp, Sem.run_pure]
  case pick c a b =>
    simp only [execOp, Sem.run_bind]
    cases (asBool (ρ c)).run P w with
    | ok x w1 => simp [Result.andThen_ok, Sem.run_pure]
    | halt x w1 => intro h; cases h
  case load t a => simp only [execOp]; exact run_value _
  case binOp => simp only [execOp]; exact run_value _
  case unOp => simp only [execOp]; exact run_value _
  case fieldAddr => simp only [execOp]; exact run_value _
  case indexAddr => simp only [execOp]; exact run_value _
  case build => simp only [execOp]; exact run_value _
  case nilCheck x =>
    simp only [execOp]
    split
    · intro h; cases h
    · intro h; cases h
    · intro h; cases h
    · split
      · intro h; cases h
      · rw [Sem.run_bind]
        generalize Sem.run P program w = r0
        cases r0 with
        | halt x w1 => intro h; cases h
        | ok p w1 =>
          rw [Result.andThen_ok, Sem.run_bind]
          generalize Sem.run P (nilAhead _ _ _ _) w1 = r
          cases r with
          | halt x w1 => intro h; cases h
          | ok b w1 =>
            rw [Result.andThen_ok]
            split
            · intro h; cases h
            · simp [Sem.run_pure]
      · simp [Sem.run_pure]
    · simp [Sem.run_pure]

section
variable {P : Program} {ops : Array Oper} {md : Region.Mode} {S : World → Prop} {Q : Exit → Act → World → Prop}

/-- One operation, in the very world: it yields a value, or nothing, or a call returns. -/
def stp (P : Program) (o : Oper) (a : Act) (w : World) (K : Act → World → Prop) : Prop :=
  match (execOp a.eval o).run P w with
  | .ok (.value u) w' => K (a.put o.dst u) w'
  | .ok .skip w' => K (a.put o.dst undef) w'
  | .ok (.defer d) w' => K ({ a with defers := d :: a.defers }.put o.dst undef) w'
  | .ok (.enter f args) w' => Calls P f args w' fun e w'' => ∃ u, e = .returned u ∧ K (a.put o.dst u) w''
  | .ok (.row row args) w' => Rows P row args w' fun v w'' => K (a.put o.dst v) w''
  | _ => False
def sOp (P : Program) (ops : Array Oper) (i : Nat) (K : Act → World → Prop) (a : Act) (w : World) : Prop :=
  match ops[i]? with
  | none => K a w
  | some o => (Region.wanted o (yielded ops a.tmps) = true ∧ stp P o a w K) ∨ (Region.wanted o (yielded ops a.tmps) = false ∧ K (a.put o.dst undef) w)
theorem stp_mono {o : Oper} {a : Act} {w : World} {K K' : Act → World → Prop} (h : ∀ a w, K a w → K' a w) (hh : stp P o a w K) : stp P o a w K' := by
  unfold stp at *
  generalize (execOp a.eval o).run P w = r at *
  cases r with
  | ok n w' =>
    cases n <;> simp only at hh ⊢
    case value u => exact h _ _ hh
    case skip => exact h _ _ hh
    case defer d => exact h _ _ hh
    case enter f args => exact hh.mono fun e w2 ⟨u, e1, e2⟩ => ⟨u, e1, h _ _ e2⟩
    case row row args => exact Rows.mono hh fun _ _ he => h _ _ he
  | halt x w' => exact hh
theorem sOp_mono {i : Nat} {a : Act} {w : World} {K K' : Act → World → Prop} (h : ∀ a w, K a w → K' a w) (hh : sOp P ops i K a w) : sOp P ops i K' a w := by
  unfold sOp at *
  cases ho : ops[i]? with
  | none => rw [ho] at hh; exact h _ _ hh
  | some o =>
    rw [ho] at hh
    rcases hh with ⟨h1, h2⟩ | ⟨h1, h2⟩
    · exact .inl ⟨h1, stp_mono h h2⟩
    · exact .inr ⟨h1, h _ _ h2⟩
theorem sOp_wp {i : Nat} {a : Act} {w : World} {K : Act → World → Prop} (hh : sOp P ops i K a w) : wpOp P ops Q i K a w := by
  unfold sOp at hh
  unfold wpOp
  cases ho : ops[i]? with
  | none => rw [ho] at hh; exact hh
  | some o =>
    rw [ho] at hh
    rcases hh with ⟨h1, h2⟩ | ⟨h1, h2⟩
    · simp only [h1, if_true]
      refine .inl ?_
      unfold stp at h2
      unfold Oper.wp
      generalize (execOp a.eval o).run P w = r at *
      cases r with
      | ok n w' =>
        cases n <;> simp only at h2 <;> simp only [Oper.upon]
        case value u => exact h2
        case skip => exact h2
        case defer d => exact h2
        case enter f args => exact h2.mono fun e w2 ⟨u, e1, e2⟩ => by subst e1; exact e2
        case row row args => exact h2
      | halt x w' => exact h2.elim
    · simp only [h1]
      exact h2
/-- In every world of the class the operation yields the value and leaves the world as it is. -/
def YldS (P : Program) (ops : Array Oper) (S : World → Prop) (o : Oper) (v : Value) (a : Act) : Prop :=
  (Region.wanted o (yielded ops a.tmps) = true ∧ ∀ w, S w → (execOp a.eval o).run P w = .ok (.value v) w ∨ ((execOp a.eval o).run P w = .ok .skip w ∧ v = undef)) ∨
  (Region.wanted o (yielded ops a.tmps) = false ∧ v = undef)
theorem YldS.same {o : Oper} {v : Value} {a a' : Act} (hy : YldS P ops S o v a) (he : execOp a'.eval o = execOp a.eval o) (hw : Region.wanted o (yielded ops a'.tmps) = Region.wanted o (yielded ops a.tmps)) : YldS P ops S o v a' := by
  unfold YldS at *
  rw [he, hw]
  exact hy
theorem YldS.op {i : Nat} {o : Oper} {v : Value} {a : Act} {w : World} {K : Act → World → Prop} (hi : ops[i]? = some o) (hy : YldS P ops S o v a) (hS : S w) (h : K (a.put o.dst v) w) : sOp P ops i K a w := by
  unfold sOp
  rw [hi]
  rcases hy with ⟨h1, h2⟩ | ⟨h1, rfl⟩
  · refine .inl ⟨h1, ?_⟩
    unfold stp
    rcases h2 w hS with h3 | ⟨h3, rfl⟩
    · rw [h3]; exact h
    · rw [h3]; exact h
  · exact .inr ⟨h1, h⟩
theorem yld_of_quiet {o : Oper} {a : Act} {K : Act → Prop} (hr : readB o = true) (h : if Region.wanted o (yielded ops a.tmps) then o.quiet P a S K else K (a.put o.dst undef)) : ∃ v, YldS P ops S o v a ∧ K (a.put o.dst v) := by
  by_cases hw : Region.wanted o (yielded ops a.tmps) = true
  · simp only [hw, if_true] at h
    obtain ⟨v, h1, h2⟩ := h
    refine ⟨v, .inl ⟨hw, fun w hS => ?_⟩, h2⟩
    have h3 := h1 w hS
    unfold Oper.quietAt at h3
    have h4 := read_enter (P := P) hr a.eval w
    generalize (execOp a.eval o).run P w = r at *
    cases r with
    | ok n w' =>
      cases n <;> simp only [Oper.quietUpon] at h3
      case value u => obtain ⟨rfl, rfl⟩ := h3; exact .inl rfl
      case skip => obtain ⟨rfl, rfl⟩ := h3; exact .inr ⟨rfl, rfl⟩
      case enter f args => exact absurd rfl (h4 _ _ _)
    | halt x w' => exact h3.elim
  · simp only [hw] at h
    exact ⟨undef, .inr ⟨by simpa using hw, rfl⟩, h⟩
/-- What is apart from an operation that only reads may come ahead of it. -/
theorem sOp_put {j : Nat} {oi oj : Oper} {v : Value} (hj : ops[j]? = some oj) (hap : oi.apart ops oj = true) (hsi : ∀ cs b, oi.op ≠ .select cs b) (hsj : ∀ cs b, oj.op ≠ .select cs b) {K : Act → World → Prop} {a : Act} {w : World}
    (hy : YldS P ops S oi v a) (h : sOp P ops j K (a.put oi.dst v) w) : sOp P ops j (fun a' w' => YldS P ops S oi v a' ∧ K (a'.put oi.dst v) w') a w := by
  obtain ⟨h1, h2, h3⟩ := Oper.apart_spec hap
  have keep : ∀ u, YldS P ops S oi v (a.put oj.dst u) := fun u => hy.same (execOp_put oi hsi a oj.dst u h3) (wanted_put oi a oj.dst u h3)
  unfold sOp at *
  rw [hj] at h ⊢
  simp only [wanted_put oj a oi.dst v h1] at h
  rcases h with ⟨hw, hs⟩ | ⟨hw, hs⟩
  · refine .inl ⟨hw, ?_⟩
    unfold stp at *
    rw [execOp_put oj hsj a oi.dst v h1] at hs
    generalize (execOp a.eval oj).run P w = r at *
    cases r with
    | ok n w' =>
      cases n <;> simp only at hs ⊢
      case value u => exact ⟨keep u, by rw [← Act.put_comm a v u h2]; exact hs⟩
      case skip => exact ⟨keep _, by rw [← Act.put_comm a v undef h2]; exact hs⟩
      case defer d =>
        refine ⟨(hy.same (a' := { a with defers := d :: a.defers }) rfl rfl).same (execOp_put oi hsi _ oj.dst undef h3) (wanted_put oi _ oj.dst undef h3), ?_⟩
        rw [← Act.put_comm _ v undef h2, ← Act.put_defers]
        exact hs
      case enter f args => exact hs.mono fun e w2 ⟨u, e1, e2⟩ => ⟨u, e1, keep u, by rw [← Act.put_comm a v u h2]; exact e2⟩
      case row row args => exact Rows.mono hs fun u w2 he => ⟨keep u, by rw [← Act.put_comm a v u h2]; exact he⟩
    | halt x w' => exact hs
  · exact .inr ⟨hw, keep _, by rw [← Act.put_comm a v undef h2]; exact hs⟩

/-- Whatever order is picked from here on; the worlds stay in the class. -/
def wpM (P : Program) (md : Region.Mode) (ops : Array Oper) (S : World → Prop) (Q : Exit → Act → World → Prop) : Nat → Array Bool → Act → World → Prop
  | 0, listed, a, w => Region.ready md ops listed = [] ∧ Q .normal a w
  | n + 1, listed, a, w => (Region.ready md ops listed = [] → Q .normal a w) ∧ ∀ i ∈ Region.ready md ops listed, sOp P ops i (fun a' w' => S w' ∧ wpM P md ops S Q n (listed.setIfInBounds i true) a' w') a w
theorem wpM_any : ∀ (n : Nat) (listed : Array Bool) (a : Act) (w : World), wpM P md ops S Q n listed a w → wpAny P md ops Q n listed a w
  | 0, _, _, _, h => h
  | n + 1, _, _, _, h => ⟨h.1, fun i hi => sOp_wp (sOp_mono (fun a w h2 => wpM_any n _ a w h2.2) (h.2 i hi))⟩
theorem wpM_first {i : Nat} {oi : Oper} {v : Value} (hi : ops[i]? = some oi) (hsel : ∀ (j : Nat) (o : Oper) cs b, ops[j]? = some o → o.op ≠ .select cs b) :
    ∀ (n : Nat) (listed : Array Bool) (a : Act) (w : World), S w →
      (∀ j oj, ops[j]? = some oj → j ≠ i → listed.getD j true = false → (∀ e ∈ oj.after, Region.binds md e = true → e.on ≠ i) → oi.apart ops oj = true) →
      i ∈ Region.ready md ops listed → YldS P ops S oi v a → wpM P md ops S Q n (listed.setIfInBounds i true) (a.put oi.dst v) w → wpM P md ops S Q (n + 1) listed a w := by
  intro n
  induction n with
  | zero =>
    intro listed a w hS _ hr hy H
    refine ⟨fun h => (by rw [h] at hr; cases hr), fun j hj => ?_⟩
    by_cases hji : j = i
    · subst hji
      exact hy.op hi hS ⟨hS, H⟩
    · have h9 := ready_mono hj hji
      rw [H.1] at h9
      cases h9
  | succ n ih =>
    intro listed a w hS hfree hr hy H
    refine ⟨fun h => (by rw [h] at hr; cases hr), fun j hj => ?_⟩
    by_cases hji : j = i
    · subst hji
      exact hy.op hi hS ⟨hS, H⟩
    have h1 := H.2 j (ready_mono hj hji)
    obtain ⟨hjun, oj, hoj, hall⟩ := mem_ready.1 hj
    have hnot : ∀ e ∈ oj.after, Region.binds md e = true → e.on ≠ i := by
      intro e he hb heq
      have h2 := hall e he hb
      have h0 := (mem_ready.1 hr).1
      rw [heq] at h2
      by_cases hlt : i < listed.size
      · simp [hlt] at h0 h2
        rw [h0] at h2
        cases h2
      · simp [Array.getElem?_eq_none (Nat.le_of_not_lt hlt)] at h2
    have h2 := sOp_put hoj (hfree j oj hoj hji hjun hnot) (fun cs b => hsel i oi cs b hi) (fun cs b => hsel j oj cs b hoj) hy h1
    refine sOp_mono (fun a' w' h3 => ?_) h2
    obtain ⟨h4, h5, h6⟩ := h3
    refine ⟨h5, ih _ a' w' h5 ?_ (ready_mono hr (Ne.symm hji)) h4 (by rw [Array.setIfInBounds_comm _ _ hji]; exact h6)⟩
    intro k ok hk hki hun hno
    refine hfree k ok hk hki ?_ hno
    by_cases hjk : j = k
    · subst hjk
      exact hjun
    · rw [getD_set_ne true hjk] at hun
      exact hun

theorem wpQuiet_mono2 {K K' : Act → Prop} (h : ∀ a, K a → K' a) : ∀ (l : List Oper) (a : Act), wpQuiet P ops S K l a → wpQuiet P ops S K' l a
  | [], a, hh => h a hh
  | o :: l, a, hh => by
    simp only [wpQuiet] at hh ⊢
    split
    · rename_i hw
      simp only [hw, if_true] at hh
      exact Oper.quiet_mono (wpQuiet_mono2 h l) hh
    · rename_i hw
      simp only [hw] at hh
      exact wpQuiet_mono2 h l _ hh
def listTo : Nat → Nat → Array Bool → Array Bool
  | 0, _, listed => listed
  | n + 1, k, listed => listTo n (k + 1) (listed.setIfInBounds k true)
def segB (md : Region.Mode) (ops : Array Oper) : Nat → Nat → Array Bool → Bool
  | 0, _, _ => true
  | n + 1, k, listed => ((Region.ready md ops listed).contains k && Region.free md ops listed k && ((ops[k]?).map readB).getD false) && segB md ops n (k + 1) (listed.setIfInBounds k true)
theorem wpM_seg (hs : Region.noSelect ops = true) : ∀ (seg : List Oper) (k m : Nat) (listed : Array Bool) (a : Act) (w : World), (∀ j, j < seg.length → seg[j]? = ops[k + j]?) → segB md ops seg.length k listed = true → S w →
    wpQuiet P ops S (fun a' => wpM P md ops S Q m (listTo seg.length k listed) a' w) seg a → wpM P md ops S Q (seg.length + m) listed a w
  | [], k, m, listed, a, w, _, _, _, h => by rw [List.length_nil, Nat.zero_add]; exact h
  | o :: seg, k, m, listed, a, w, hl, hB, hS, h => by
    have h0 : ops[k]? = some o := (hl 0 (by simp)).symm
    simp only [List.length_cons, segB, Bool.and_eq_true, h0, Option.map_some, Option.getD_some] at hB
    obtain ⟨⟨⟨hr, hf⟩, hrd⟩, hB'⟩ := hB
    obtain ⟨v, hy, hK⟩ := yld_of_quiet hrd h
    have key := wpM_seg hs seg (k + 1) m (listed.setIfInBounds k true) (a.put o.dst v) w (fun j hj => by have := hl (j + 1) (by simp; omega); simpa [Nat.add_assoc, Nat.add_comm 1 j] using this) hB' hS hK
    have e : (o :: seg).length + m = seg.length + m + 1 := by simp; omega
    rw [e]
    exact wpM_first h0 (Region.noSelect_spec hs) _ listed a w hS (Region.free_spec h0 hf) (by simpa using hr) hy key
theorem stp_of_list {o : Oper} {a : Act} {w : World} {K : Act → World → Prop} (h : wpList P ops (fun ex a' w' => ex = .normal ∧ K a' w') [o] a w) : (Region.wanted o (yielded ops a.tmps) = true ∧ stp P o a w K) ∨ (Region.wanted o (yielded ops a.tmps) = false ∧ K (a.put o.dst undef) w) := by
  have no : ¬ LetsOut (fun ex (a' : Act) w' => ex = Exit.normal ∧ K a' w') := by
    rintro ⟨a', w', h1, -⟩
    cases h1
  simp only [wpList] at h
  by_cases hw : Region.wanted o (yielded ops a.tmps) = true
  · simp only [hw, if_true] at h
    refine .inl ⟨hw, ?_⟩
    rcases h with h | ⟨-, h⟩
    · unfold Oper.wp at h
      unfold stp
      generalize (execOp a.eval o).run P w = r at *
      cases r with
      | ok n w' =>
        cases n <;> simp only [Oper.upon] at h ⊢
        case value u => exact h.2
        case skip => exact h.2
        case enter f args =>
          refine h.mono fun e w2 he => ?_
          cases e with
          | returned u => exact ⟨u, rfl, he.2⟩
          | panicked c => exact absurd he.1 (by simp)
          | outgrown => exact absurd he no
        case defer d => exact h.2
        case row row args => exact Rows.mono h fun _ _ he => he.2
      | halt x w' =>
        cases x <;> simp only [Oper.upon] at h
        case panic v => exact absurd h.1 (by simp)
    · exact absurd h no
  · simp only [hw] at h
    exact .inr ⟨by simpa using hw, h.2⟩

/-- The region's walk: its reading parts within the class, its calls in the very world, cut at the calls (each number: how many that only read stand ahead of the next call). -/
def wpCuts (P : Program) (ops : Array Oper) (S : World → Prop) (Q : Exit → Act → World → Prop) : List Nat → List Oper → Act → World → Prop
  | [], l, a, w => wpQuiet P ops S (fun a' => Q .normal a' w) l a
  | n :: more, l, a, w => wpQuiet P ops S (fun a' => wpList P ops (fun ex a2 w' => ex = .normal ∧ (S w' ∧ wpCuts P ops S Q more (l.drop (n + 1)) a2 w')) ((l.drop n).take 1) a' w) (l.take n) a
def cutsB (md : Region.Mode) (ops : Array Oper) : List Nat → Nat → Array Bool → Bool
  | [], k, listed => segB md ops (ops.size - k) k listed && (Region.ready md ops (listTo (ops.size - k) k listed)).isEmpty
  | n :: more, k, listed => decide (k + n < ops.size) && (segB md ops n k listed && (Region.ready md ops (listTo n k listed) == [k + n] && cutsB md ops more (k + n + 1) ((listTo n k listed).setIfInBounds (k + n) true)))
theorem wpM_cuts (hs : Region.noSelect ops = true) : ∀ (cuts : List Nat) (k : Nat) (l : List Oper) (listed : Array Bool) (a : Act) (w : World), k ≤ ops.size → (∀ j, l[j]? = ops[k + j]?) → cutsB md ops cuts k listed = true → S w →
    wpCuts P ops S Q cuts l a w → wpM P md ops S Q (ops.size - k) listed a w
  | [], k, l, listed, a, w, hk, hl, hB, hS, h => by
    have hlen : l.length = ops.size - k := by
      apply Nat.le_antisymm
      · rcases Nat.lt_or_ge (ops.size - k) l.length with h1 | h1
        · have h2 := hl (ops.size - k)
          rw [List.getElem?_eq_getElem h1, Array.getElem?_eq_none (by omega)] at h2
          cases h2
        · exact h1
      · rcases Nat.lt_or_ge l.length (ops.size - k) with h1 | h1
        · have h2 := hl l.length
          rw [List.getElem?_eq_none (Nat.le_refl _), Array.getElem?_eq_getElem (by omega)] at h2
          cases h2
        · exact h1
    simp only [cutsB, Bool.and_eq_true] at hB
    have key := wpM_seg (Q := Q) hs l k 0 listed a w (fun j _ => hl j) (by rw [hlen]; exact hB.1) hS (by
      rw [hlen]
      have he : Region.ready md ops (listTo (ops.size - k) k listed) = [] := by simpa using hB.2
      exact wpQuiet_mono2 (fun a' h9 => ⟨he, h9⟩) _ _ h)
    rw [hlen, Nat.add_zero] at key
    exact key
  | n :: more, k, l, listed, a, w, hk, hl, hB, hS, h => by
    simp only [cutsB, Bool.and_eq_true, decide_eq_true_eq] at hB
    obtain ⟨hlt, hseg, hr, hrest⟩ := hB
    have hr2 : Region.ready md ops (listTo n k listed) = [k + n] := by simpa using hr
    have hln : n < l.length := by
      rcases Nat.lt_or_ge n l.length with h1 | h1
      · exact h1
      · have h2 := hl n
        rw [List.getElem?_eq_none h1, Array.getElem?_eq_getElem hlt] at h2
        cases h2
    have hlen : (l.take n).length = n := by rw [List.length_take]; omega
    have key := wpM_seg (Q := Q) hs (l.take n) k (ops.size - (k + n)) listed a w (fun j hj => by
      rw [hlen] at hj
      rw [List.getElem?_take, if_pos hj]
      exact hl j) (by rw [hlen]; exact hseg) hS (by
      rw [hlen]
      refine wpQuiet_mono2 (fun a' h9 => ?_) _ _ h
      have e : ops.size - (k + n) = ops.size - (k + n + 1) + 1 := by omega
      rw [e]
      refine ⟨fun h => (by rw [hr2] at h; cases h), fun i hi => ?_⟩
      rw [hr2] at hi
      have hi2 : i = k + n := by simpa using hi
      subst hi2
      have ho : ops[k + n]? = some l[n] := by rw [← hl n]; exact List.getElem?_eq_getElem hln
      have ht : (l.drop n).take 1 = [l[n]] := by rw [List.drop_eq_getElem_cons hln]; rfl
      rw [ht] at h9
      have h8 := stp_of_list h9
      unfold sOp
      rw [ho]
      have step : ∀ a2 w', (S w' ∧ wpCuts P ops S Q more (l.drop (n + 1)) a2 w') → S w' ∧ wpM P md ops S Q (ops.size - (k + n + 1)) ((listTo n k listed).setIfInBounds (k + n) true) a2 w' := fun a2 w' hh =>
        ⟨hh.1, wpM_cuts hs more (k + n + 1) (l.drop (n + 1)) _ a2 w' (by omega) (fun j => by rw [List.getElem?_drop, hl]; congr 1; omega) hrest hh.1 hh.2⟩
      rcases h8 with ⟨h7, h6⟩ | ⟨h7, h6⟩
      · exact .inl ⟨h7, stp_mono step h6⟩
      · exact .inr ⟨h7, step _ _ h6⟩)
    rw [hlen] at key
    have e2 : n + (ops.size - (k + n)) = ops.size - k := by omega
    rw [e2] at key
    exact key
theorem wp_region_cuts {id : Nat} {a : Act} {w : World} {l : List Oper} (cuts : List Nat) (hm : P.follows .mixedOrders = true) (hs : Region.noSelect l.toArray = true) (hB : cutsB .any l.toArray cuts 0 (Array.replicate l.toArray.size false) = true) (hS : S (w.drewN 1))
    (h : wpCuts P l.toArray S Q cuts l a (w.drewN 1)) : (Code.region id l.toArray true).wp P Q a w := by
  refine wp_region_any hm (wpM_any (S := S) _ _ _ _ ?_)
  have key := wpM_cuts (md := .any) hs cuts 0 l (Array.replicate l.toArray.size false) a (w.drewN 1) (Nat.zero_le _) (fun j => by simp) hB hS h
  rw [Nat.sub_zero] at key
  exact key
end
end Go.Proofs.Ytgeckgdmkjddpaa
