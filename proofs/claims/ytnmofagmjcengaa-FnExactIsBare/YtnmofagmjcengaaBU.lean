/- What the law's marks leave of a tree: its shape. -/
import Derived.Test.YtnmofagmjcengaaXD
import Derived.Test.YtnmofagmjcengaaLX
import Derived.Test.YtnmofagmjcengaaMA
namespace Go.Proofs.Ytnmofagmjcengaa.Nm
open Go.ChangeShapes Go.WideShapes Go.ChangeAt Go.RowKit

/-- Values of one kind. -/
def Sk (v v' : Value) : Prop := v' = v ∨ (∃ i j : Int, v = .int .i64 i ∧ v' = .int .i64 j) ∨ (∃ s t : ByteArray, v = .string s ∧ v' = .string t)
theorem Sk.refl (v : Value) : Sk v v := .inl rfl
theorem Sk.trans {a b c : Value} (h : Sk a b) (k : Sk b c) : Sk a c := by
  rcases h with rfl | ⟨i, j, rfl, rfl⟩ | ⟨s, t, rfl, rfl⟩
  · exact k
  · rcases k with rfl | ⟨i', j', h1, rfl⟩ | ⟨s, t, h1, -⟩
    · exact .inr (.inl ⟨i, j, rfl, rfl⟩)
    · exact .inr (.inl ⟨i, j', rfl, rfl⟩)
    · cases h1
  · rcases k with rfl | ⟨i', j', h1, -⟩ | ⟨s', t', h1, rfl⟩
    · exact .inr (.inr ⟨s, t, rfl, rfl⟩)
    · cases h1
    · exact .inr (.inr ⟨s, t', rfl, rfl⟩)
theorem Sk.slice {o : Option Addr} {n c : Nat} {v : Value} (h : Sk (.slice o n c) v) : v = .slice o n c := by
  rcases h with h | ⟨i, j, h, -⟩ | ⟨s, t, h, -⟩
  · exact h
  · cases h
  · cases h
theorem Sk.int {i : Int} {v : Value} (h : Sk (.int .i64 i) v) : ∃ j, v = .int .i64 j := by
  rcases h with h | ⟨i, j, h, rfl⟩ | ⟨s, t, h, -⟩
  · exact ⟨_, h⟩
  · exact ⟨_, rfl⟩
  · cases h
theorem Sk.str {s : ByteArray} {v : Value} (h : Sk (.string s) v) : ∃ t, v = .string t := by
  rcases h with h | ⟨i, j, h, -⟩ | ⟨s, t, h, rfl⟩
  · exact ⟨_, h⟩
  · cases h
  · exact ⟨_, rfl⟩
/-- Marks are put into blocks of K. -/
structure Mk (K : Nat → Prop) (w w' : World) : Prop where
  keep : Keeps (fun b => ¬ K b ∧ b < w.heap.size) w w'
  kin : ∀ (a : Addr) (v : Value), K a.block → w.cell? a = some v → ∃ v', w'.cell? a = some v' ∧ Sk v v'
  plain : ∀ b, K b → PlainAt w ⟨b, 0, none⟩ → PlainAt w' ⟨b, 0, none⟩
theorem Mk.refl (K : Nat → Prop) (w : World) : Mk K w w := ⟨Keeps.refl _ _, fun _ v _ h => ⟨v, h, Sk.refl v⟩, fun _ _ h => h⟩
theorem Mk.trans {K : Nat → Prop} {a b c : World} (h : Mk K a b) (k : Mk K b c) : Mk K a c :=
  ⟨h.keep.trans (k.keep.mono fun x hx => ⟨hx.1, Nat.lt_of_lt_of_le hx.2 h.keep.size⟩), fun x v hx hv => by
    obtain ⟨v1, h1, s1⟩ := h.kin x v hx hv
    obtain ⟨v2, h2, s2⟩ := k.kin x v1 hx h1
    exact ⟨v2, h2, s1.trans s2⟩, fun x hx hp => k.plain x hx (h.plain x hx hp)⟩
theorem Mk.later {K : Nat → Prop} {w w' : World} (hb : Below w.heap.size w w') : Mk K w w' :=
  ⟨keeps_of hb fun _ h => h.2, fun a v _ hv => ⟨v, (hb.cell (p := a) (World.block_lt_of_cell? w a hv)).trans hv, Sk.refl v⟩, fun b _ ⟨c, e, h⟩ => ⟨c, e, (hb.block b (heap_lt h)).trans h⟩⟩
theorem Mk.set {K : Nat → Prop} {w : World} {b j : Nat} {v u : Value} (hb : K b) (hv : w.cell? ⟨b, j, none⟩ = some v) (hs : Sk v u) : Mk K w (w.setCell ⟨b, j, none⟩ u) := by
  refine ⟨keeps_set w b j u fun h => h.1 hb, fun a x ha hx => ?_, fun c hc ⟨cs, e, h⟩ => ?_⟩
  · obtain ⟨ab, ao, asp⟩ := a
    by_cases h1 : ab = b
    · subst h1
      cases asp with
      | some q =>
        have h9 := World.cell?_spot hx
        cases h9
      | none =>
        by_cases h2 : ao = j
        · subst h2
          have e := hx.symm.trans hv
          have e2 := Option.some.inj e
          rw [e2]
          refine ⟨u, ?_, hs⟩
          rw [set_cell w ab ao ao u v hv, if_pos rfl]
        · refine ⟨x, ?_, Sk.refl x⟩
          rw [set_cell w ab j ao u v hv, if_neg h2]
          exact hx
    · refine ⟨x, ?_, Sk.refl x⟩
      exact (World.cell?_of_block (a := ⟨ab, ao, asp⟩) (heap_set_other u h1)).trans hx
  · by_cases h1 : c = b
    · subst h1
      exact ⟨_, e, heap_set_same u h⟩
    · exact ⟨cs, e, (heap_set_other u h1).trans h⟩
def strQ (_ : ByteArray) (cs : List Value) : Prop := ∃ s, cs = [.string s]
structure Shps where
  ex : Tr → List Value → Prop
  de : Tr → List Value → Prop
  al : Tr → List Value → Prop
/-- The shape of cells that were a tree. -/
def shp (K : Nat → Prop) (w : World) : Nat → Shps
  | 0 => ⟨fun _ _ => False, fun _ _ => False, fun _ _ => False⟩
  | h + 1 =>
    ⟨fun e cs => ∃ k s n o1 c1 o2 c2 o3 c3, cs = [.int .i64 k, .string s, .int .i64 n, .slice o1 e.l.length c1, .slice o2 e.ds.length c2, .slice o3 e.al.length c3] ∧ (e.l.length ≤ maxLen ∧ e.ds.length ≤ maxLen ∧ e.al.length ≤ maxLen) ∧ RowOf K w (shp K w h).ex 6 o1 e.l ∧ RowOf K w (shp K w h).de 9 o2 e.ds ∧ RowOf K w (shp K w h).al 8 o3 e.al,
     fun d cs => ∃ e s o1 c1 ce o2 c2, d.l = [e] ∧ cs = [.string s, .slice o1 d.ss.length c1] ++ ce ++ [.slice o2 d.ds.length c2] ∧ (d.ss.length ≤ maxLen ∧ d.ds.length ≤ maxLen) ∧ RowOf K w strQ 1 o1 d.ss ∧ ce.length = 6 ∧ (shp K w h).ex e ce ∧ RowOf K w (shp K w h).de 9 o2 d.ds,
     fun a cs => ∃ e s o1 c1 ce, a.l = [e] ∧ cs = [.string s, .slice o1 a.ss.length c1] ++ ce ∧ a.ss.length ≤ maxLen ∧ RowOf K w strQ 1 o1 a.ss ∧ ce.length = 6 ∧ (shp K w h).ex e ce⟩
theorem str_q {x : ByteArray} {cs : List Value} (h : strR x cs) : strQ x cs := ⟨x, h.1⟩
theorem shp_of {K : Nat → Prop} {w : World} : ∀ h, (∀ e cs, (reads K w h).ex e cs → (shp K w h).ex e cs) ∧ (∀ d cs, (reads K w h).de d cs → (shp K w h).de d cs) ∧ (∀ a cs, (reads K w h).al a cs → (shp K w h).al a cs) := by
  intro h
  induction h with
  | zero => exact ⟨fun _ _ h => h, fun _ _ h => h, fun _ _ h => h⟩
  | succ h ih =>
    obtain ⟨ih1, ih2, ih3⟩ := ih
    refine ⟨fun e cs he => ?_, fun d cs hd => ?_, fun a cs ha => ?_⟩
    · obtain ⟨e0, o1, c1, o2, c2, o3, c3, e1, e2, e3, e4, e5, r1, r2, r3⟩ := he
      exact ⟨e.k, e.s, e.n, o1, c1, o2, c2, o3, c3, e1, ⟨e3.1, e4.1, e5.1⟩, r1.frame (Stays.refl _ _) (fun _ h => h) ih1, r2.frame (Stays.refl _ _) (fun _ h => h) ih2, r3.frame (Stays.refl _ _) (fun _ h => h) ih3⟩
    · obtain ⟨d0, d1, d2, e, o1, c1, ce, o2, c2, e0, e1, e2, e3, e4, r1, e5, r2, r3⟩ := hd
      exact ⟨e, d.s, o1, c1, ce, o2, c2, e0, e1, ⟨e3.1, e4.1⟩, r1.frame (Stays.refl _ _) (fun _ h => h) (fun _ _ h => str_q h), e5, ih1 _ _ r2, r3.frame (Stays.refl _ _) (fun _ h => h) ih2⟩
    · obtain ⟨a0, a1, a2, a3, e, o1, c1, ce, e0, e1, e2, e3, r1, e4, r2⟩ := ha
      exact ⟨e, a.s, o1, c1, ce, e0, e1, e3.1, r1.frame (Stays.refl _ _) (fun _ h => h) (fun _ _ h => str_q h), e4, ih1 _ _ r2⟩
def SkL (cs cs' : List Value) : Prop := cs'.length = cs.length ∧ ∀ (j : Nat) (v v' : Value), cs[j]? = some v → cs'[j]? = some v' → Sk v v'
theorem SkL.six {a b c d e f : Value} {cs' : List Value} (h : SkL [a, b, c, d, e, f] cs') : ∃ a' b' c' d' e' f', cs' = [a', b', c', d', e', f'] ∧ Sk a a' ∧ Sk b b' ∧ Sk c c' ∧ Sk d d' ∧ Sk e e' ∧ Sk f f' := by
  obtain ⟨a', b', c', d', e', f', rfl⟩ := Go.Proofs.Ytnmofagmjcengaa.six h.1
  exact ⟨a', b', c', d', e', f', rfl, h.2 0 _ _ rfl rfl, h.2 1 _ _ rfl rfl, h.2 2 _ _ rfl rfl, h.2 3 _ _ rfl rfl, h.2 4 _ _ rfl rfl, h.2 5 _ _ rfl rfl⟩
/-- A row's cells behind marks: of the same kinds. -/
theorem row_kin {α : Type} {K : Nat → Prop} {w w' : World} {R R' : α → List Value → Prop} {sz : Nat} {o : Option Addr} {xs : List α} (h : RowOf K w R sz o xs) (hm : Mk K w w') (hR : ∀ x cs cs', SkL cs cs' → R x cs → R' x cs') : RowOf K w' R' sz o xs := by
  intro hne
  obtain ⟨b, off, ho, hk, hlt, hc⟩ := h hne
  refine ⟨b, off, ho, hk, Nat.lt_of_lt_of_le hlt hm.keep.size, fun i x hx => ?_⟩
  obtain ⟨cs, h1, h2, h3⟩ := hc i x hx
  obtain ⟨cs', hl', hp⟩ := list_of2 (α := Value) (n := sz) (p := fun j v' => w'.cell? ⟨b, off + i * sz + j, none⟩ = some v' ∧ ∀ v, cs[j]? = some v → Sk v v') (fun j hj => by
    obtain ⟨v', h4, h5⟩ := hm.kin ⟨b, off + i * sz + j, none⟩ (cs[j]'(by omega)) hk (h2 j _ (List.getElem?_eq_getElem _))
    refine ⟨v', h4, fun v hv => ?_⟩
    rw [List.getElem?_eq_getElem (by omega)] at hv
    cases hv
    exact h5)
  exact ⟨cs', hl', fun j u hu => (hp j u hu).1, hR x cs cs' ⟨hl'.trans h1.symm, fun j v v' hv hv' => (hp j v' hv').2 v hv⟩ h3⟩
theorem strQ_kin (x : ByteArray) (cs cs' : List Value) (h : SkL cs cs') (hx : strQ x cs) : strQ x cs' := by
  obtain ⟨s, rfl⟩ := hx
  match cs', h.1 with
  | [v], _ =>
    obtain ⟨t, rfl⟩ := (h.2 0 _ _ rfl rfl).str
    exact ⟨t, rfl⟩
theorem shp_kin {K : Nat → Prop} {w w' : World} (hm : Mk K w w') : ∀ h, (∀ e cs cs', SkL cs cs' → (shp K w h).ex e cs → (shp K w' h).ex e cs') ∧ (∀ d cs cs', SkL cs cs' → (shp K w h).de d cs → (shp K w' h).de d cs') ∧ (∀ a cs cs', SkL cs cs' → (shp K w h).al a cs → (shp K w' h).al a cs') := by
  intro h
  induction h with
  | zero => exact ⟨fun _ _ _ _ h => h, fun _ _ _ _ h => h, fun _ _ _ _ h => h⟩
  | succ h ih =>
    obtain ⟨ih1, ih2, ih3⟩ := ih
    refine ⟨fun e cs cs' hs he => ?_, fun d cs cs' hs hd => ?_, fun a cs cs' hs ha => ?_⟩
    · obtain ⟨k, s, n, o1, c1, o2, c2, o3, c3, rfl, ml, r1, r2, r3⟩ := he
      obtain ⟨x0, x1, x2, x3, x4, x5, rfl, s0, s1, s2, s3, s4, s5⟩ := hs.six
      obtain ⟨k', rfl⟩ := s0.int
      obtain ⟨s', rfl⟩ := s1.str
      obtain ⟨n', rfl⟩ := s2.int
      rw [s3.slice, s4.slice, s5.slice]
      exact ⟨k', s', n', o1, c1, o2, c2, o3, c3, rfl, ml, row_kin r1 hm ih1, row_kin r2 hm ih2, row_kin r3 hm ih3⟩
    · obtain ⟨e, s, o1, c1, ce, o2, c2, e0, rfl, ml, r1, e5, r2, r3⟩ := hd
      obtain ⟨a0, a1, a2, a3, a4, a5, rfl⟩ := Go.Proofs.Ytnmofagmjcengaa.six e5
      obtain ⟨x, y, b0, b1, b2, b3, b4, b5, z, rfl⟩ := nine hs.1
      obtain ⟨s', rfl⟩ := (hs.2 0 _ _ rfl rfl : Sk (.string s) x).str
      rw [(hs.2 1 _ _ rfl rfl : Sk (.slice o1 d.ss.length c1) y).slice, (hs.2 8 _ _ rfl rfl : Sk (.slice o2 d.ds.length c2) z).slice]
      refine ⟨e, s', o1, c1, [b0, b1, b2, b3, b4, b5], o2, c2, e0, rfl, ml, row_kin r1 hm strQ_kin, rfl, ih1 e [a0, a1, a2, a3, a4, a5] [b0, b1, b2, b3, b4, b5] ⟨rfl, fun j v v' hv hv' => ?_⟩ r2, row_kin r3 hm ih2⟩
      match j with
      | 0 => exact hs.2 2 _ _ hv hv'
      | 1 => exact hs.2 3 _ _ hv hv'
      | 2 => exact hs.2 4 _ _ hv hv'
      | 3 => exact hs.2 5 _ _ hv hv'
      | 4 => exact hs.2 6 _ _ hv hv'
      | 5 => exact hs.2 7 _ _ hv hv'
      | j + 6 => simp at hv
    · obtain ⟨e, s, o1, c1, ce, e0, rfl, ml, r1, e5, r2⟩ := ha
      obtain ⟨a0, a1, a2, a3, a4, a5, rfl⟩ := Go.Proofs.Ytnmofagmjcengaa.six e5
      obtain ⟨x, y, b0, b1, b2, b3, b4, b5, rfl⟩ := eight hs.1
      obtain ⟨s', rfl⟩ := (hs.2 0 _ _ rfl rfl : Sk (.string s) x).str
      rw [(hs.2 1 _ _ rfl rfl : Sk (.slice o1 a.ss.length c1) y).slice]
      refine ⟨e, s', o1, c1, [b0, b1, b2, b3, b4, b5], e0, rfl, ml, row_kin r1 hm strQ_kin, rfl, ih1 e [a0, a1, a2, a3, a4, a5] [b0, b1, b2, b3, b4, b5] ⟨rfl, fun j v v' hv hv' => ?_⟩ r2⟩
      match j with
      | 0 => exact hs.2 2 _ _ hv hv'
      | 1 => exact hs.2 3 _ _ hv hv'
      | 2 => exact hs.2 4 _ _ hv hv'
      | 3 => exact hs.2 5 _ _ hv hv'
      | 4 => exact hs.2 6 _ _ hv hv'
      | 5 => exact hs.2 7 _ _ hv hv'
      | j + 6 => simp at hv
theorem row_shp {K : Nat → Prop} {w w' : World} (hm : Mk K w w') (h : Nat) {o : Option Addr} {xs : List Tr} : (RowOf K w (shp K w h).ex 6 o xs → RowOf K w' (shp K w' h).ex 6 o xs) ∧ (RowOf K w (shp K w h).de 9 o xs → RowOf K w' (shp K w' h).de 9 o xs) ∧ (RowOf K w (shp K w h).al 8 o xs → RowOf K w' (shp K w' h).al 8 o xs) :=
  ⟨fun r => row_kin r hm (shp_kin hm h).1, fun r => row_kin r hm (shp_kin hm h).2.1, fun r => row_kin r hm (shp_kin hm h).2.2⟩

end Go.Proofs.Ytnmofagmjcengaa.Nm
