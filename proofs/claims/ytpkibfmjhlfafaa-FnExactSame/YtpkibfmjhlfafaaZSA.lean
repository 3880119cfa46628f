/- Results held against each other by pairs of places: what is left, what is done, and why it ends; the box that holds them. -/
import Derived.Test.YtpkibfmjhlfafaaMFr
import Derived.Test.YtpkibfmjhlfafaaMI
import Derived.Test.YtpkibfmjhlfafaaZRA
import Derived.Test.YtpkibfmjhlfafaaQD
namespace Go.Proofs.Ytpkibfmjhlfafaa.Sr
open Go.ChangeShapes Go.WideShapes Go.ChangeAt Go.RowKit Go.Proofs.Ytpkibfmjhlfafaa

theorem adds_sub (ks p : List (Addr × Addr)) : ∀ l ∈ adds ks p, l ∈ p := by
  induction p generalizing ks with
  | nil => intro l hl; cases hl
  | cons x r ih =>
    intro l hl
    rw [adds, List.mem_append] at hl
    rcases hl with hl | hl
    · unfold newOf at hl
      split at hl
      · cases hl
      · exact List.mem_cons.2 (Or.inl (List.mem_singleton.1 hl))
    · exact List.mem_cons_of_mem _ (ih _ l hl)
theorem places_in {ba pa bb pb sz n : Nat} {l : Addr × Addr} (h : l ∈ places ba pa bb pb sz n) : l.1.block = ba ∧ l.2.block = bb := by
  unfold places at h
  obtain ⟨i, -, rfl⟩ := List.mem_map.1 h
  exact ⟨rfl, rfl⟩
/-- Cells are one tree only. -/
theorem tyR_fun {K K' : Nat → Prop} {w : World} : ∀ h h' t u cs, tyR K w h t cs → tyR K' w h' u cs → t = u := by
  intro h
  induction h with
  | zero => exact fun _ _ _ _ h => False.elim h
  | succ h ih =>
    intro h' t u cs a b
    cases h' with
    | zero => exact b.elim
    | succ h' =>
      obtain ⟨a1, a2, a3, o1, c1, ec, -, -, r1⟩ := a
      obtain ⟨b1, b2, b3, p1, d1, ed, -, -, q1⟩ := b
      rw [ec] at ed
      simp only [List.cons.injEq, Value.int.injEq, Value.string.injEq, Value.slice.injEq, true_and, and_true] at ed
      obtain ⟨k1, k2, k3, m1, n1, -⟩ := ed
      subst m1
      exact tr_ext k1 k2 k3 (a1.trans b1.symm) (row_fun r1 q1 n1 fun x y cs => ih h' x y cs) (a2.trans b2.symm) (a3.trans b3.symm)
theorem tyR_up {K : Nat → Prop} {w : World} : ∀ h t cs, tyR K w h t cs → tyR K w (h + 1) t cs := by
  intro h
  induction h with
  | zero => exact fun _ _ h => False.elim h
  | succ h ih =>
    rintro t cs ⟨a1, a2, a3, o1, c1, ec, e1, e2, r1⟩
    exact ⟨a1, a2, a3, o1, c1, ec, e1, e2, r1.frame (Stays.refl K w) (fun _ h => h) ih⟩
theorem tyR_le {K : Nat → Prop} {w : World} {h h' : Nat} (hl : h ≤ h') : ∀ t cs, tyR K w h t cs → tyR K w h' t cs := by
  obtain ⟨k, rfl⟩ := Nat.exists_eq_add_of_le hl
  induction k with
  | zero => exact fun _ _ h => h
  | succ k ih => exact fun t cs a => tyR_up (h + k) t cs (ih (by omega) t cs a)
def CellsAt (w : World) (x : Addr) (cs : List Value) : Prop := ∀ j u, cs[j]? = some u → w.cell? ⟨x.block, x.off + j, none⟩ = some u
/-- At a place a result can be read, up to a height. -/
def AtR (W : World) (K : Nat → Prop) (h : Nat) (x : Addr) (t : Tr) : Prop := x.spot = none ∧ K x.block ∧ ∃ cs, cs.length = 4 ∧ CellsAt W x cs ∧ tyR K W h t cs
theorem cells_fun {W : World} {x : Addr} {cs ds : List Value} (h1 : CellsAt W x cs) (h2 : CellsAt W x ds) (hl : cs.length = ds.length) : cs = ds := by
  apply List.ext_getElem hl
  intro j ja jb
  have a1 := h1 j cs[j] (List.getElem?_eq_getElem ja)
  have a2 := h2 j ds[j] (List.getElem?_eq_getElem jb)
  rw [a1] at a2
  exact Option.some.inj a2
theorem at_fun {W : World} {K : Nat → Prop} {h h' : Nat} {x : Addr} {t u : Tr} (a : AtR W K h x t) (b : AtR W K h' x u) : t = u := by
  obtain ⟨-, -, cs, l1, c1, r1⟩ := a
  obtain ⟨-, -, ds, l2, c2, r2⟩ := b
  have e := cells_fun c1 c2 (l1.trans l2.symm)
  subst e
  exact tyR_fun h h' _ _ _ r1 r2
def ndr : Nat → Tr → Nat
  | 0, _ => 0
  | h + 1, t => 1 + (t.l.map (ndr h)).sum
theorem ndr_one (h : Nat) (t : Tr) : 1 ≤ ndr (h + 1) t := by
  show 1 ≤ 1 + (t.l.map (ndr h)).sum
  omega
theorem sum_len (h : Nat) (f : Nat → Tr → Nat) (l : List Tr) (hf : ∀ x ∈ l, 1 ≤ f h x) : l.length ≤ (l.map (f h)).sum := by
  induction l with
  | nil => exact Nat.zero_le _
  | cons x r ih =>
    rw [List.length_cons, List.map_cons, List.sum_cons]
    have h1 := hf x (List.mem_cons_self ..)
    have h2 := ih fun y hy => hf y (List.mem_cons_of_mem _ hy)
    omega
theorem row_zero {α : Type} {K : Nat → Prop} {w : World} {sz : Nat} {o : Option Addr} {xs : List α} (h : RowOf K w (fun _ _ => False) sz o xs) : xs = [] := by
  cases xs with
  | nil => rfl
  | cons x r =>
    obtain ⟨_, _, _, _, _, hc⟩ := h (by simp)
    obtain ⟨_, _, _, hf⟩ := hc 0 x rfl
    exact hf.elim
theorem kids_len {K : Nat → Prop} {W : World} {h : Nat} {t : Tr} {cs : List Value} (hr : tyR K W h t cs) : t.l.length ≤ ndr h t ∧ 1 ≤ ndr h t := by
  cases h with
  | zero => exact hr.elim
  | succ h =>
    obtain ⟨-, -, -, o, c, -, -, -, r⟩ := hr
    refine ⟨?_, ndr_one h t⟩
    show _ ≤ 1 + (t.l.map (ndr h)).sum
    have h1 : t.l.length ≤ (t.l.map (ndr h)).sum := by
      cases h with
      | zero => rw [row_zero r]; exact Nat.zero_le _
      | succ h => exact sum_len (h + 1) ndr t.l fun y _ => ndr_one h y
    omega

section
variable (W : World) (K : Nat → Prop) (F : Prop)
/-- What is left, and how much it weighs at most. -/
def WtR : List (Addr × Addr) → Nat → Prop
  | [], _ => True
  | p :: l, n => ∃ h t h' u m, AtR W K h p.1 t ∧ AtR W K h' p.2 u ∧ (F → t = u) ∧ ndr h t + m ≤ n ∧ WtR l m
def KidsR (ks : List (Addr × Addr)) (l m : List Tr) : Prop := ∀ (k : Nat) (a b : Tr), l[k]? = some a → m[k]? = some b → ∃ q : Addr × Addr, (∃ h, AtR W K h q.1 a) ∧ (∃ h, AtR W K h q.2 b) ∧ (q.1 = q.2 ∨ q ∈ ks)
def DoneR (ks : List (Addr × Addr)) (p : Addr × Addr) : Prop := ∃ t u, (∃ h, AtR W K h p.1 t) ∧ (∃ h, AtR W K h p.2 u) ∧ (t.k = u.k ∧ t.s = u.s ∧ t.n = u.n) ∧ t.l.length = u.l.length ∧ KidsR W K ks t.l u.l
structure GoodR (ls ks : List (Addr × Addr)) (n : Nat) : Prop where
  wt : WtR W K F ls n
  done : ∀ p ∈ ks, p ∈ ls ∨ DoneR W K ks p
end
section
variable {W : World} {K : Nat → Prop} {F : Prop}
theorem WtR.mono {l : List (Addr × Addr)} {n m : Nat} (h : WtR W K F l n) (hn : n ≤ m) : WtR W K F l m := by
  cases l with
  | nil => trivial
  | cons p l =>
    obtain ⟨a, t, b, u, k, h1, h2, h3, h4, h5⟩ := h
    exact ⟨a, t, b, u, k, h1, h2, h3, by omega, h5⟩
theorem WtR.join {l r : List (Addr × Addr)} {n m : Nat} (h : WtR W K F l n) (k : WtR W K F r m) : WtR W K F (l ++ r) (n + m) := by
  induction l generalizing n with
  | nil => exact k.mono (by omega)
  | cons p l ih =>
    obtain ⟨a, t, b, u, q, h1, h2, h3, h4, h5⟩ := h
    exact ⟨a, t, b, u, q + m, h1, h2, h3, by omega, ih h5⟩
theorem WtR.split {l r : List (Addr × Addr)} {n : Nat} (h : WtR W K F (l ++ r) n) : ∃ a b, WtR W K F l a ∧ WtR W K F r b ∧ a + b ≤ n := by
  induction l generalizing n with
  | nil => exact ⟨0, n, trivial, h, by omega⟩
  | cons p l ih =>
    obtain ⟨a, t, b, u, q, h1, h2, h3, h4, h5⟩ := h
    obtain ⟨x, y, e1, e2, e3⟩ := ih h5
    exact ⟨ndr a t + x, y, ⟨a, t, b, u, x, h1, h2, h3, Nat.le_refl _, e1⟩, e2, by omega⟩
theorem WtR.len {l : List (Addr × Addr)} {n : Nat} (h : WtR W K F l n) : l.length ≤ n := by
  induction l generalizing n with
  | nil => exact Nat.zero_le _
  | cons p l ih =>
    obtain ⟨a, t, b, u, q, ⟨-, -, cs, -, -, hr⟩, h2, h3, h4, h5⟩ := h
    have h6 := ih h5
    have h7 := (kids_len hr).2
    rw [List.length_cons]
    omega
theorem WtR.adds {l : List (Addr × Addr)} {n : Nat} (ks : List (Addr × Addr)) (h : WtR W K F l n) : WtR W K F (adds ks l) n := by
  induction l generalizing n ks with
  | nil => trivial
  | cons p l ih =>
    obtain ⟨a, t, b, u, q, h1, h2, h3, h4, h5⟩ := h
    have e1 : WtR W K F (newOf ks p) (ndr a t) := by
      unfold newOf
      split
      · trivial
      · exact ⟨a, t, b, u, 0, h1, h2, h3, by omega, trivial⟩
    exact (e1.join (ih (ks ++ newOf ks p) h5)).mono h4
theorem KidsR.more {ks ks' : List (Addr × Addr)} {l m : List Tr} (h : KidsR W K ks l m) (hk : ∀ p ∈ ks, p ∈ ks') : KidsR W K ks' l m := by
  intro k a b ha hb
  obtain ⟨q, h1, h2, h3⟩ := h k a b ha hb
  exact ⟨q, h1, h2, h3.imp id (hk q)⟩
theorem DoneR.more {ks ks' : List (Addr × Addr)} {p : Addr × Addr} (h : DoneR W K ks p) (hk : ∀ p ∈ ks, p ∈ ks') : DoneR W K ks' p := by
  obtain ⟨t, u, h1, h2, h3, h4, k1⟩ := h
  exact ⟨t, u, h1, h2, h3, h4, k1.more hk⟩
/-- One pair is taken away and looked at: what it puts behind it. -/
theorem GoodR.next {l0 ks a : List (Addr × Addr)} {p : Addr × Addr} {n n0 m : Nat} (h : GoodR W K F (l0 ++ [p]) ks n) (hd : DoneR W K (ks ++ a) p) (hw : WtR W K F l0 n0) (ha : WtR W K F a m) : GoodR W K F (l0 ++ a) (ks ++ a) (n0 + m) := by
  refine ⟨hw.join ha, fun q hq => ?_⟩
  rcases List.mem_append.1 hq with hq | hq
  · rcases h.done q hq with h1 | h1
    · rcases List.mem_append.1 h1 with h2 | h2
      · exact .inl (List.mem_append_left _ h2)
      · rw [List.mem_singleton] at h2
        subst h2
        exact .inr hd
    · exact .inr (h1.more fun _ h => List.mem_append_left _ h)
  · exact .inl (List.mem_append_right _ hq)
theorem size_l {t a : Tr} (h : a ∈ t.l) : SizeOf.sizeOf a < SizeOf.sizeOf t := by
  have h1 := List.sizeOf_lt_of_mem h
  cases t
  simp only [Tr.mk.sizeOf_spec]
  simp only at h1
  omega
theorem ty_bare {h : Nat} {t : Tr} {cs : List Value} (hr : tyR K W h t cs) : t.ss = [] ∧ t.ds = [] ∧ t.al = [] := by
  cases h with
  | zero => exact hr.elim
  | succ h => exact ⟨hr.1, hr.2.1, hr.2.2.1⟩
/-- When nothing is left, what was put is the same. -/
theorem all_same {ks : List (Addr × Addr)} (h : ∀ p ∈ ks, DoneR W K ks p) : ∀ (n : Nat), ∀ p ∈ ks, ∀ (h1 h2 : Nat) (t u : Tr), SizeOf.sizeOf t ≤ n → AtR W K h1 p.1 t → AtR W K h2 p.2 u → t = u := by
  intro n
  induction n with
  | zero =>
    intro p _ h1 h2 t u hs
    cases t
    simp only [Tr.mk.sizeOf_spec] at hs
    omega
  | succ n ih =>
    intro p hp h1 h2 t u hs a1 a2
    obtain ⟨t', u', ⟨g1, b1⟩, ⟨g2, b2⟩, ⟨e1, e2, e3⟩, l1, k1⟩ := h p hp
    have et := at_fun a1 b1
    have eu := at_fun a2 b2
    subst et eu
    obtain ⟨-, -, _, -, -, r1⟩ := a1
    obtain ⟨-, -, _, -, -, r2⟩ := a2
    obtain ⟨x1, x2, x3⟩ := ty_bare r1
    obtain ⟨y1, y2, y3⟩ := ty_bare r2
    refine tr_ext e1 e2 e3 (x1.trans y1.symm) ?_ (x2.trans y2.symm) (x3.trans y3.symm)
    apply List.ext_getElem l1
    intro k ka kb
    obtain ⟨q, ⟨c1, d1⟩, ⟨c2, d2⟩, hq⟩ := k1 k _ _ (List.getElem?_eq_getElem ka) (List.getElem?_eq_getElem kb)
    rcases hq with hq | hq
    · rw [← hq] at d2
      exact at_fun d1 d2
    · exact ih q hq _ _ _ _ (by have := size_l (List.getElem_mem ka); omega) d1 d2
def blkOf (o : Option Addr) : Nat := (o.getD ⟨0, 0, none⟩).block
def offOf (o : Option Addr) : Nat := (o.getD ⟨0, 0, none⟩).off
/-- What two rows put, as far as they are as long. -/
def puts (ks : List (Addr × Addr)) (oa ob : Option Addr) (n m : Nat) : List (Addr × Addr) := if n = m then adds ks (places (blkOf oa) (offOf oa) (blkOf ob) (offOf ob) 4 n) else []
theorem row_at {h : Nat} {o : Option Addr} {xs : List Tr} {k : Nat} {x : Tr} (hr : RowOf K W (tyR K W h) 4 o xs) (hk : xs[k]? = some x) : AtR W K h ⟨blkOf o, offOf o + k * 4, none⟩ x := by
  have hne : xs ≠ [] := by intro e; rw [e] at hk; simp at hk
  obtain ⟨b, off, rfl, kb, -, hc⟩ := hr hne
  obtain ⟨cs, l1, c1, r1⟩ := hc k x hk
  exact ⟨rfl, kb, cs, l1, c1, r1⟩
theorem places_wt {h h' : Nat} {o p : Option Addr} {xs ys : List Tr} (hx : RowOf K W (tyR K W h) 4 o xs) (hy : RowOf K W (tyR K W h') 4 p ys) (hl : xs.length = ys.length) (hF : F → xs = ys) :
    ∀ n, n ≤ xs.length → WtR W K F (places (blkOf o) (offOf o) (blkOf p) (offOf p) 4 n) ((xs.take n).map (ndr h)).sum := by
  intro n
  induction n with
  | zero => intro _; trivial
  | succ n ih =>
    intro hn
    have h1 : xs[n]? = some xs[n] := List.getElem?_eq_getElem (by omega)
    have h2 : ys[n]? = some (ys[n]'(by omega)) := List.getElem?_eq_getElem (by omega)
    rw [places_succ, List.take_add_one, h1, List.map_append, List.sum_append]
    refine (ih (by omega)).join ⟨h, xs[n], h', ys[n]'(by omega), 0, row_at hx h1, row_at hy h2, fun hf => ?_, by simp, trivial⟩
    have e := hF hf
    subst e
    rfl
theorem puts_wt {h h' : Nat} {o p : Option Addr} {xs ys : List Tr} (ks : List (Addr × Addr)) (hx : RowOf K W (tyR K W h) 4 o xs) (hy : RowOf K W (tyR K W h') 4 p ys) (hl : xs.length = ys.length) (hF : F → xs = ys) :
    WtR W K F (puts ks o p xs.length ys.length) (xs.map (ndr h)).sum := by
  unfold puts
  rw [if_pos hl]
  have key := places_wt hx hy hl hF xs.length (Nat.le_refl _)
  rw [List.take_length] at key
  exact key.adds ks
theorem puts_kids {h h' : Nat} {o p : Option Addr} {xs ys : List Tr} (ks : List (Addr × Addr)) (hx : RowOf K W (tyR K W h) 4 o xs) (hy : RowOf K W (tyR K W h') 4 p ys) (hl : xs.length = ys.length) : KidsR W K (ks ++ puts ks o p xs.length ys.length) xs ys := by
  intro k a b ha hb
  refine ⟨(⟨blkOf o, offOf o + k * 4, none⟩, ⟨blkOf p, offOf p + k * 4, none⟩), ⟨h, row_at hx ha⟩, ⟨h', row_at hy hb⟩, ?_⟩
  unfold puts
  rw [if_pos hl]
  refine adds_has _ _ _ ?_
  unfold places
  exact List.mem_map.2 ⟨k, List.mem_range.2 (List.getElem?_eq_some_iff.1 ha).1, rfl⟩
end

/-- The box: what is left, and what was put. -/
def BoxP (w : World) (K : Nat → Prop) (g : Nat) (ls ks : List (Addr × Addr)) : Prop := ∃ c e vl mo, w.heap[g]? = some (.cells c e (0, 0)) ∧ c[0]? = some vl ∧ c[1]? = some (.map mo) ∧ PairsMem 47 w K g vl mo ls ks
theorem PairsNow.box {w w' : World} {K : Nat → Prop} {g : Nat} {c : Array Value} {e : TypeId} {ls ks : List (Addr × Addr)} (h : PairsNow 47 w w' K g 0 c e ls ks) : BoxP w' K g ls ks ∧ Keeps K w w' := by
  obtain ⟨c', vl', mo', h1, h2, h3, h4, h5, h6⟩ := h
  exact ⟨⟨c', e, vl', mo', h1, h2, h3, h5⟩, h6⟩
theorem BoxP.later {w w' : World} {K : Nat → Prop} {g : Nat} {ls ks : List (Addr × Addr)} (h : BoxP w K g ls ks) (hb : Below w.heap.size w w') : BoxP w' K g ls ks := by
  obtain ⟨c, e, vl, mo, hg, h0, h1, hm⟩ := h
  exact ⟨c, e, vl, mo, (hb.block g hm.gw).trans hg, h0, h1, hm.later hb⟩
theorem box_kw {w : World} {K : Nat → Prop} {g : Nat} {ls ks : List (Addr × Addr)} (h : BoxP w K g ls ks) : ∀ k, K k → k < w.heap.size := by
  obtain ⟨c, e, vl, mo, hg, h0, h1, hm⟩ := h
  exact hm.kw
theorem box_gw {w : World} {K : Nat → Prop} {g : Nat} {ls ks : List (Addr × Addr)} (h : BoxP w K g ls ks) : g < w.heap.size := by
  obtain ⟨c, e, vl, mo, hg, h0, h1, hm⟩ := h
  exact heap_lt hg
theorem box_len {w : World} {K : Nat → Prop} {g : Nat} {ls ks : List (Addr × Addr)} (h : BoxP w K g ls ks) : ∃ o cap, w.cell? ⟨g, 0, none⟩ = some (.slice o ls.length cap) := by
  obtain ⟨c, e, vl, mo, hg, h0, h1, hm⟩ := h
  obtain ⟨o, cap, hv⟩ := owns_form hm.row
  refine ⟨o, cap, ?_⟩
  rw [cell_of hg, h0, hv]
theorem box_zero {w : World} {K : Nat → Prop} {e : TypeId} (hk : ∀ k, K k → k < w.heap.size) : BoxP (w.alloc (.cells #[.slice none 0 0, .map none] e)) K w.heap.size [] [] := by
  refine ⟨_, e, .slice none 0 0, none, heap_alloc_new w _, rfl, rfl, ⟨rfl, .inl ⟨rfl, rfl⟩⟩, .inl ⟨rfl, rfl⟩, (fun h => by cases h), (fun h => by cases h), .inl rfl, fun h => ?_, (fun k h => by cases h), (fun k h => by cases h), fun k h => ?_, by simp, fun l hl => by cases hl⟩
  · have := hk _ h
    omega
  · have := hk k h
    simp
    omega
theorem box_put (x y : Addr) (g : Nat) (w : World) (K : Nat → Prop) (ls ks : List (Addr × Addr)) (h : BoxP w K g ls ks) (kx : K x.block) (ky : K y.block) (px : PlainAt w x) (py : PlainAt w y) (hn : ls.length ≤ 10000000) :
    Calls Try.prog 14 #[.pointer (some ⟨g, 0, none⟩), .pointer (some x), .pointer (some y)] w fun e' w' => e' = .returned (.tuple #[]) ∧ BoxP w' K g (ls ++ newOf ks (x, y)) (ks ++ newOf ks (x, y)) ∧ Keeps K w w' := by
  obtain ⟨c, e, vl, mo, hg, hc0, hc1, hm⟩ := h
  refine (PR.put_any x y g 0 w c e K vl mo ls ks hg hc0 hc1 hm kx ky px py hn).mono ?_
  rintro e' w' ⟨rfl, hp⟩
  exact ⟨rfl, PairsNow.box hp⟩
theorem box_putAll (oa ob : Option Addr) (ca cb g : Nat) (xs ys : List Tr) (w : World) (K : Nat → Prop) (ls ks : List (Addr × Addr)) {R R' : Tr → List Value → Prop} {KP : Nat → Prop} (h : BoxP w K g ls ks) (hKP : ∀ b, KP b → K b) (ha : RowOf KP w R 4 oa xs) (hb : RowOf KP w R' 4 ob ys)
    (hl1 : xs.length ≤ maxLen) (hl2 : ys.length ≤ maxLen) (hp : ∀ b, KP b → PlainAt w ⟨b, 0, none⟩) (hn : ls.length + xs.length ≤ 10000000) :
    Calls Try.prog 17 #[.pointer (some ⟨g, 0, none⟩), .slice oa xs.length ca, .slice ob ys.length cb] w fun e' w' => e' = .returned (.bool (decide (xs.length = ys.length))) ∧ BoxP w' K g (ls ++ puts ks oa ob xs.length ys.length) (ks ++ puts ks oa ob xs.length ys.length) ∧ Keeps K w w' := by
  by_cases hlen : xs.length = ys.length
  · obtain ⟨c, e, vl, mo, hg, hc0, hc1, hm⟩ := h
    have hoa : xs.length ≠ 0 → oa = some ⟨blkOf oa, offOf oa, none⟩ ∧ ob = some ⟨blkOf ob, offOf ob, none⟩ ∧ KP (blkOf oa) ∧ KP (blkOf ob) := by
      intro hne
      obtain ⟨b1, o1, rfl, k1, -, -⟩ := ha (fun e => hne (by rw [e]; rfl))
      obtain ⟨b2, o2, rfl, k2, -, -⟩ := hb (fun e => hne (by rw [hlen, e]; rfl))
      exact ⟨rfl, rfl, k1, k2⟩
    have hcall := PR.putAll_yes g 0 xs.length ca cb (blkOf oa) (offOf oa) (blkOf ob) (offOf ob) oa ob w c e K vl mo ls ks hg hc0 hc1 hm (fun hne => ⟨(hoa hne).1, (hoa hne).2.1, hKP _ (hoa hne).2.2.1, hKP _ (hoa hne).2.2.2, hp _ (hoa hne).2.2.1, hp _ (hoa hne).2.2.2⟩) hn
    rw [← hlen]
    refine hcall.mono ?_
    rintro e' w' ⟨rfl, hnow⟩
    have hpu : puts ks oa ob xs.length xs.length = adds ks (places (blkOf oa) (offOf oa) (blkOf ob) (offOf ob) 4 xs.length) := if_pos rfl
    rw [hpu]
    exact ⟨by simp, PairsNow.box hnow⟩
  · refine (PR.putAll_no g 0 xs.length ys.length ca cb oa ob w hl1 hl2 hlen).mono ?_
    rintro e' w' ⟨rfl, rfl⟩
    have hpu : puts ks oa ob xs.length ys.length = [] := if_neg hlen
    rw [hpu, List.append_nil, List.append_nil]
    exact ⟨by simp [hlen], h, Keeps.refl _ _⟩
theorem rowP_len (l : List (Addr × Addr)) : (rowP l).length = l.length * 2 := by
  induction l with
  | nil => rfl
  | cons x r ih =>
    have e : rowP (x :: r) = ptrs x ++ rowP r := rfl
    rw [e, List.length_append, ih, List.length_cons]
    show 2 + r.length * 2 = (r.length + 1) * 2
    omega
theorem box_pop {w : World} {K : Nat → Prop} {g : Nat} {ls ks : List (Addr × Addr)} (h : BoxP w K g ls ks) (l0 : List (Addr × Addr)) (p : Addr × Addr) (he : ls = l0 ++ [p]) :
    ∃ gb cap, w.cell? ⟨g, 0, none⟩ = some (.slice (some ⟨gb, 0, none⟩) (l0.length + 1) cap) ∧ w.frozen? ⟨g, 0, none⟩ = false ∧ l0.length + 1 ≤ cap ∧ cap ≤ maxLen ∧ w.cell? ⟨gb, l0.length * 2, none⟩ = some (.pointer (some p.1)) ∧ w.cell? ⟨gb, l0.length * 2 + 1, none⟩ = some (.pointer (some p.2)) ∧
      BoxP (w.setCell ⟨g, 0, none⟩ (.slice (some ⟨gb, 0, none⟩) l0.length cap)) K g l0 ks ∧ Keeps K w (w.setCell ⟨g, 0, none⟩ (.slice (some ⟨gb, 0, none⟩) l0.length cap)) := by
  obtain ⟨c, e, vl, mo, hg, hc0, hc1, hm⟩ := h
  have hrow := hm.row
  rw [he, rowP_snoc, List.length_append] at hrow
  rcases hrow.2 with ⟨-, h0⟩ | ⟨gb, cap, cur, hv, -, hgb, hn, hcap, hsz, htk⟩
  · simp at h0
  have hn2 : l0.length + 1 ≤ cap := hn
  have hcur : ∀ j u, (rowP l0 ++ ptrs p)[j]? = some u → w.cell? ⟨gb, j, none⟩ = some u := by
    intro j u hu
    rw [cell_of hgb, ← Array.getElem?_toList]
    rw [← htk] at hu
    rw [List.getElem?_take] at hu
    split at hu
    · exact hu
    · cases hu
  have hl := rowP_len l0
  refine ⟨gb, cap, ?_, frozen_of hg _, hn2, hcap, ?_, ?_, ?_⟩
  · rw [cell_of hg, hc0, hv]
    rfl
  · refine hcur _ _ ?_
    rw [List.getElem?_append_right (by omega), hl, Nat.sub_self]
    rfl
  · refine hcur _ _ ?_
    rw [List.getElem?_append_right (by omega), hl, show l0.length * 2 + 1 - l0.length * 2 = 1 by omega]
    rfl
  · have hs := hm.set 0 (.slice (some ⟨gb, 0, none⟩) l0.length cap)
    have hgn : gb ≠ g := fun e => hm.rg (by rw [hv, e]; rfl)
    have hob : Value.ownBlock (.slice (some ⟨gb, 0, none⟩) l0.length cap) = vl.ownBlock := by rw [hv]; rfl
    have hcs : 0 < c.size := by
      rcases Nat.lt_or_ge 0 c.size with h1 | h1
      · exact h1
      · rw [Array.getElem?_eq_none h1] at hc0
        cases hc0
    refine ⟨⟨c.set! 0 (.slice (some ⟨gb, 0, none⟩) l0.length cap), e, .slice (some ⟨gb, 0, none⟩) l0.length cap, mo, heap_set_same _ hg, ?_, ?_, ?_⟩, ?_⟩
    · rw [Array.set!_eq_setIfInBounds, Array.getElem?_setIfInBounds_self_of_lt hcs]
    · rw [Array.set!_eq_setIfInBounds, Array.getElem?_setIfInBounds_ne (by omega)]
      exact hc1
    · refine ⟨⟨by rw [hl], Or.inr ⟨gb, cap, cur, rfl, Nat.zero_le _, (heap_set_other _ hgn).trans hgb, by omega, hcap, hsz, ?_⟩⟩, hs.map, by rw [hob]; exact hs.rg, hs.mg, by rw [hob]; exact hs.rm, hs.kg, by rw [hob]; exact hs.kr, hs.km, hs.kw, hs.gw, hs.keys⟩
      have h3 : (cur.toList.take ((l0.length + [p].length) * 2)).take (l0.length * 2) = (rowP l0 ++ ptrs p).take (l0.length * 2) := by rw [htk]
      rw [List.take_take, Nat.min_eq_left (by simp; omega), List.take_append_of_le_length (by omega), List.take_of_length_le (l := rowP l0) (by omega)] at h3
      exact h3
    · exact ⟨rfl, rfl, rfl, by simp, fun k hk => heap_set_other _ fun e => hm.kg (e ▸ hk)⟩
end Go.Proofs.Ytpkibfmjhlfafaa.Sr
