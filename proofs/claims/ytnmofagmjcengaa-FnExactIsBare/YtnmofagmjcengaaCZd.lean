/- The program's listsFrom: each list in a list, and in these, once (made by genCZd.py). -/
import Derived.Test.YtnmofagmjcengaaCX
import Derived.Test.YtnmofagmjcengaaCZ
import Derived.Test.YtnmofagmjcengaaCZb
namespace Go.Proofs.Ytnmofagmjcengaa.Br
open Go.ChangeShapes Go.WideShapes Go.ChangeAt Go.RowKit Go.Shelf Go.Proofs.Ytnmofagmjcengaa.It Go.Proofs.Ytnmofagmjcengaa.Vo
attribute [local go_sem] Oper.semAt_some
set_option linter.unusedVariables false

def pk (x : Ls) : Pk := (x.i, x.o.getD ⟨0, 0, none⟩, x.n)
theorem pk_key {x y : Ls} {a b : Addr} (hx : x.o = some a) (hy : y.o = some b) (h : pk x = pk y) : key x = key y := by
  unfold pk at h
  unfold key
  rw [hx, hy] at h ⊢
  simp only [Option.getD_some, Prod.mk.injEq] at h
  rw [h.1, h.2.1, h.2.2]
/-- What is known of a list that is handed on: it can be read, and it stands in the first one. -/
def Sub (K : Nat → Prop) (w0 : World) (root x : Ls) : Prop := (∃ h xs, Rd K w0 h x xs ∧ lw (wtI h x.i) xs ≤ 10000000) ∧ (Bad w0 x → Bad w0 root)
/-- Nothing is left out. -/
def Closed (w0 : World) (root : Ls) (ys : List Ls) : Prop := (∃ v ∈ ys, key v = key root) ∧ ∀ x ∈ ys, ∀ y ∈ kids w0 x, ∃ v ∈ ys, key v = key y
def PrL (K : Nat → Prop) (Bs m : Nat) (v : Value) (k : Nat) : Prop := (K k ∨ k = Bs) ∨ k = m ∨ v.ownBlock = some k
structure LInv (K : Nat → Prop) (w0 : World) (root : Ls) (Bs m : Nat) (J : List Ls → (Nat → Prop) → World → Prop) (W : World) (v : Value) (left ys : List Ls) (ks : List Pk) (n : Nat) (wr : World) : Prop where
  j : J ys (PrL K Bs m v) wr
  row : ListedRow W.heap.size wr v (left.map valL)
  set : SetAt wr m kvP ks
  keep : KeptP (fun k => K k ∨ k = Bs) W wr
  wt : WtL K w0 left n
  sub : ∀ x ∈ left, Bad w0 x → Bad w0 root
  seen : ∀ k ∈ ks, ∃ z ∈ ys, pk z = k
  done : ∀ z ∈ ys, Sub K w0 root z
  clo : ∀ z ∈ ys, ∀ y ∈ kids w0 z, (∃ v ∈ ys, key v = key y) ∨ (∃ v ∈ left, key v = key y)
  root : (∃ v ∈ ys, key v = key root) ∨ (∃ v ∈ left, key v = key root)
theorem kids_sub {w0 : World} {root x : Ls} (h : Bad w0 x → Bad w0 root) : ∀ y ∈ kids w0 x, Bad w0 y → Bad w0 root := fun y hy hb => h (.kid x y hy hb)
theorem least_any {α : Type} (G : Nat → α → Prop) : ∃ mu : α → Nat, ∀ w m, G m w → G (mu w) w ∧ mu w ≤ m := by
  have h : ∀ w, ∃ n, ∀ m, G m w → G n w ∧ n ≤ m := by
    intro w
    by_cases he : ∃ m, G m w
    · obtain ⟨m, hm⟩ := he
      induction m using Nat.strongRecOn with
      | ind m ih =>
        by_cases hl : ∃ k, k < m ∧ G k w
        · obtain ⟨k, hk, hg⟩ := hl
          exact ih k hk hg
        · refine ⟨m, fun k hk => ⟨hm, ?_⟩⟩
          rcases Nat.lt_or_ge k m with h1 | h1
          · exact absurd ⟨k, h1, hk⟩ hl
          · exact h1
    · exact ⟨0, fun m hm => absurd ⟨m, hm⟩ he⟩
  obtain ⟨f, hf⟩ := Classical.axiomOfChoice h
  exact ⟨f, fun w m hm => hf w m hm⟩

/-- A list that came already is struck. -/
theorem LInv.again {K : Nat → Prop} {w0 : World} {root : Ls} {Bs m : Nat} {J : List Ls → (Nat → Prop) → World → Prop} {W : World} {left0 ys : List Ls} {x : Ls} {ks : List Pk} {n g cap : Nat} {wr w2 : World}
    (h : LInv K w0 root Bs m J W (.slice (some ⟨g, 0, none⟩) (left0.length + 1) cap) (left0 ++ [x]) ys ks n wr) (hJ : J ys (PrL K Bs m (.slice (some ⟨g, 0, none⟩) (left0.length + 1) cap)) w2) (hrow : ListedRow W.heap.size w2 (.slice (some ⟨g, 0, none⟩) left0.length cap) (left0.map valL)) (hset : SetAt w2 m kvP ks) (hkeep : KeptP (fun k => K k ∨ k = Bs) W w2) (hks : pk x ∈ ks) :
    ∃ n', LInv K w0 root Bs m J W (.slice (some ⟨g, 0, none⟩) left0.length cap) left0 ys ks n' w2 ∧ n' < n := by
  obtain ⟨a, b, wa, ⟨hx, xs, q, hr, hq, -⟩, hab⟩ := h.wt.split
  obtain ⟨z, hz, ez⟩ := h.seen _ hks
  obtain ⟨⟨hz', zs, hrz, -⟩, -⟩ := h.done z hz
  obtain ⟨bx, ox, eox, -⟩ := hr.at
  obtain ⟨bz, oz, eoz, -⟩ := hrz.at
  have ekey : key z = key x := pk_key eoz eox ez
  have hpos := lw_pos (f := wtI hx x.i) hr.2.1
  refine ⟨a, ⟨hJ, hrow, hset, hkeep, wa, fun y hy => h.sub y (by simp [hy]), h.seen, h.done, fun y hy v hv => ?_, ?_⟩, by omega⟩
  · rcases h.clo y hy v hv with h1 | ⟨u, hu, eu⟩
    · exact .inl h1
    · rcases List.mem_append.1 hu with h2 | h2
      · exact .inr ⟨u, h2, eu⟩
      · rw [List.mem_singleton] at h2
        subst h2
        exact .inl ⟨z, hz, ekey.trans eu⟩
  · rcases h.root with h1 | ⟨u, hu, eu⟩
    · exact .inl h1
    · rcases List.mem_append.1 hu with h2 | h2
      · exact .inr ⟨u, h2, eu⟩
      · rw [List.mem_singleton] at h2
        subst h2
        exact .inl ⟨z, hz, ekey.trans eu⟩
/-- A list that is new was handed on; what lies in it is left. -/
theorem LInv.next {K : Nat → Prop} {w0 : World} {root : Ls} {Bs m : Nat} {J : List Ls → (Nat → Prop) → World → Prop} {W : World} {v v2 : Value} {left0 ys : List Ls} {x : Ls} {ks : List Pk} {n : Nat} {wr w2 : World}
    (h : LInv K w0 root Bs m J W v (left0 ++ [x]) ys ks n wr) (hn : n ≤ 10000000) (hJ : J (ys ++ [x]) (PrL K Bs m v2) w2) (hrow : ListedRow W.heap.size w2 v2 ((left0 ++ kids w0 x).map valL)) (hset : SetAt w2 m kvP (addK ks (pk x))) (hkeep : KeptP (fun k => K k ∨ k = Bs) W w2) :
    ∃ n', LInv K w0 root Bs m J W v2 (left0 ++ kids w0 x) (ys ++ [x]) (addK ks (pk x)) n' w2 ∧ n' < n := by
  obtain ⟨a, b, wa, ⟨hx, xs, q, hr, hq, -⟩, hab⟩ := h.wt.split
  obtain ⟨wk, hwk⟩ := hr.kids
  have hsx : Bad w0 x → Bad w0 root := h.sub x (by simp)
  refine ⟨a + (xs.map (wtI hx x.i)).sum, ⟨hJ, hrow, hset, hkeep, wa.join wk, fun y hy => ?_, fun k hk => ?_, fun z hz => ?_, fun z hz y hy => ?_, ?_⟩, by omega⟩
  · rcases List.mem_append.1 hy with h1 | h1
    · exact h.sub y (by simp [h1])
    · exact kids_sub hsx y h1
  · rcases (mem_addK _ _ _).1 hk with h1 | h1
    · obtain ⟨z, hz, ez⟩ := h.seen k h1
      exact ⟨z, by simp [hz], ez⟩
    · exact ⟨x, by simp, h1.symm⟩
  · rcases List.mem_append.1 hz with h1 | h1
    · exact h.done z h1
    · rw [List.mem_singleton] at h1
      subst h1
      exact ⟨⟨hx, xs, hr, by omega⟩, hsx⟩
  · rcases List.mem_append.1 hz with h1 | h1
    · rcases h.clo z h1 y hy with ⟨u, hu, eu⟩ | ⟨u, hu, eu⟩
      · exact .inl ⟨u, by simp [hu], eu⟩
      · rcases List.mem_append.1 hu with h2 | h2
        · exact .inr ⟨u, by simp [h2], eu⟩
        · rw [List.mem_singleton] at h2
          exact .inl ⟨x, by simp, h2 ▸ eu⟩
    · rw [List.mem_singleton] at h1
      subst h1
      exact .inr ⟨y, by simp [hy], rfl⟩
  · rcases h.root with ⟨u, hu, eu⟩ | ⟨u, hu, eu⟩
    · exact .inl ⟨u, by simp [hu], eu⟩
    · rcases List.mem_append.1 hu with h2 | h2
      · exact .inr ⟨u, by simp [h2], eu⟩
      · rw [List.mem_singleton] at h2
        exact .inl ⟨x, by simp, h2 ▸ eu⟩
/-- Behind what asks whether a list came already. -/
theorem LInv.upto {K : Nat → Prop} {w0 : World} {root : Ls} {Bs : Nat} {J : List Ls → (Nat → Prop) → World → Prop} {W : World} {v : Value} {left ys : List Ls} {ks : List Pk} {n : Nat} {wr : World} (h : LInv K w0 root Bs W.heap.size J W v left ys ks n wr) (hJ : Stab W.heap.size J) (hN : ∀ k, (K k ∨ k = Bs) → k < W.heap.size) {w1 w2 : World} (hb : Below wr.heap.size wr w1) (ho : Oth W.heap.size w1 w2) :
    J ys (PrL K Bs W.heap.size v) w2 ∧ KeptP (fun k => K k ∨ k = Bs) W w2 ∧ (∀ g, v.ownBlock = some g → w2.heap[g]? = wr.heap[g]?) ∧ (∀ k, PrL K Bs W.heap.size v k → k < w2.heap.size) := by
  have hNr : W.heap.size ≤ wr.heap.size := h.keep.1
  have hml : W.heap.size < wr.heap.size := SetAt.lt h.set
  have hs2 : wr.heap.size ≤ w2.heap.size := Nat.le_trans hb.size ho.size
  have hk : ∀ k, k < wr.heap.size → k ≠ W.heap.size → w2.heap[k]? = wr.heap[k]? := fun k hk hne => (ho.block k ⟨Nat.lt_of_lt_of_le hk hb.size, hne⟩).trans (hb.block k hk)
  have hg : ∀ g, v.ownBlock = some g → g < wr.heap.size ∧ g ≠ W.heap.size := fun g hg => by
    obtain ⟨-, cur, hc⟩ := ORow.own h.row hg
    refine ⟨heap_lt hc, fun e => ?_⟩
    obtain ⟨es, c5, hm5, -⟩ := h.set
    rw [e, hm5] at hc
    cases hc
  refine ⟨hJ _ _ _ _ _ ⟨⟨ho.os.trans hb.os, ho.tape.trans hb.tape, ho.output.trans hb.output, hs2, fun k hkl => hk k (by omega) (by omega)⟩, fun k hkl hp => hk k hkl fun e => hp (.inr (.inl e))⟩ hNr (fun k hk => .inl hk) h.j, ⟨Nat.le_trans hNr hs2, fun k hkk hkl => (hk k (by omega) (by omega)).trans (h.keep.2 k hkk hkl)⟩, fun g hgo => hk g (hg g hgo).1 (hg g hgo).2, fun k hkp => ?_⟩
  rcases hkp with hkp | hkp | hkp
  · have := hN k hkp
    omega
  · omega
  · have := (hg k hkp).1
    omega
/-- Behind what appends the lists within. -/
theorem LInv.behind {K : Nat → Prop} {Bs g l cap : Nat} {J : List Ls → (Nat → Prop) → World → Prop} {W V V2 : World} {v2 : Value} {ys : List Ls} {ks : List Pk} {o : Obj} (hJ : Stab W.heap.size J) (hN : ∀ k, (K k ∨ k = Bs) → k < W.heap.size) (hgN : W.heap.size ≤ g) (hgm : g ≠ W.heap.size) (hs : SetAt V W.heap.size kvP ks) (hk : KeptP (fun k => K k ∨ k = Bs) W V) (hj : J ys (PrL K Bs W.heap.size (.slice (some ⟨g, 0, none⟩) l cap)) V)
    (hown : ∀ q, v2.ownBlock = some q → (Value.slice (some ⟨g, 0, none⟩) l cap).ownBlock = some q ∨ (V.alloc o).heap.size ≤ q) (hg : Grew (Value.slice (some ⟨g, 0, none⟩) l cap).ownBlock (V.alloc o) V2) :
    J ys (PrL K Bs W.heap.size v2) V2 ∧ SetAt V2 W.heap.size kvP ks ∧ KeptP (fun k => K k ∨ k = Bs) W V2 := by
  have hml : W.heap.size < V.heap.size := SetAt.lt hs
  have hsz : (V.alloc o).heap.size = V.heap.size + 1 := by simp
  have hs2 : V.heap.size ≤ V2.heap.size := by have := hg.size; omega
  have hkk : ∀ k, k < V.heap.size → k ≠ g → V2.heap[k]? = V.heap[k]? := fun k hk hne => (hg.block k (by omega) (fun e => hne (Option.some.inj e).symm)).trans (Below.heap_alloc V o k hk)
  have hch : Chg W.heap.size (PrL K Bs W.heap.size (.slice (some ⟨g, 0, none⟩) l cap)) V V2 := ⟨⟨hg.os, hg.tape, hg.output, hs2, fun k hkl => hkk k (by have := hk.1; omega) (by omega)⟩, fun k hkl hp => hkk k hkl fun e => hp (.inr (.inr (by rw [e]; rfl)))⟩
  refine ⟨hJ ys _ _ V V2 hch hk.1 (fun k hk => ?_) hj, hs.keep (hkk _ hml (Ne.symm hgm)), ⟨Nat.le_trans hk.1 hs2, fun k hk1 hk2 => (hkk k (by omega) (by omega)).trans (hk.2 k hk1 hk2)⟩⟩
  rcases hk with hk | hk | hk
  · exact .inl (.inl hk)
  · exact .inl (.inr (.inl hk))
  · rcases hown k hk with h1 | h1
    · exact .inl (.inr (.inr h1))
    · exact .inr (by omega)
end Go.Proofs.Ytnmofagmjcengaa.Br
