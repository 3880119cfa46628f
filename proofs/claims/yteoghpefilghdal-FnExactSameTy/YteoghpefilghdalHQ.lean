/- One pair looked at, of each kind: what the program answers, and what it puts. -/
import Derived.Test.YteoghpefilghdalHP
namespace Go.Proofs.Yteoghpefilghdal
open Go.RowKit

theorem reads_up {K : Nat → Prop} {w : World} : ∀ h, (∀ e cs, (reads K w h).ex e cs → (reads K w (h + 1)).ex e cs) ∧ (∀ d cs, (reads K w h).de d cs → (reads K w (h + 1)).de d cs) ∧ (∀ a cs, (reads K w h).al a cs → (reads K w (h + 1)).al a cs) := by
  intro h
  induction h with
  | zero => exact ⟨fun _ _ h => False.elim h, fun _ _ h => False.elim h, fun _ _ h => False.elim h⟩
  | succ h ih =>
    obtain ⟨i1, i2, i3⟩ := ih
    have st := Stays.refl K w
    refine ⟨fun e cs he => ?_, fun d cs hd => ?_, fun a cs ha => ?_⟩
    · obtain ⟨e0, o1, c1, o2, c2, o3, c3, e1, e2, e3, e4, e5, r1, r2, r3⟩ := he
      exact ⟨e0, o1, c1, o2, c2, o3, c3, e1, e2, e3, e4, e5, r1.frame st (fun _ h => h) i1, r2.frame st (fun _ h => h) i2, r3.frame st (fun _ h => h) i3⟩
    · obtain ⟨d0, d1, d2, e, o1, c1, ce, o2, c2, e0, e1, e2, e3, e4, r1, e5, r2, r3⟩ := hd
      exact ⟨d0, d1, d2, e, o1, c1, ce, o2, c2, e0, e1, e2, e3, e4, r1, e5, i1 _ _ r2, r3.frame st (fun _ h => h) i2⟩
    · obtain ⟨a0, a1, a2, a3, e, o1, c1, ce, e0, e1, e2, e3, r1, e4, r2⟩ := ha
      exact ⟨a0, a1, a2, a3, e, o1, c1, ce, e0, e1, e2, e3, r1, e4, i1 _ _ r2⟩
theorem reads_le {K : Nat → Prop} {w : World} {h h' : Nat} (hl : h ≤ h') : (∀ e cs, (reads K w h).ex e cs → (reads K w h').ex e cs) ∧ (∀ d cs, (reads K w h).de d cs → (reads K w h').de d cs) ∧ (∀ a cs, (reads K w h).al a cs → (reads K w h').al a cs) := by
  obtain ⟨k, rfl⟩ := Nat.exists_eq_add_of_le hl
  induction k with
  | zero => exact ⟨fun _ _ h => h, fun _ _ h => h, fun _ _ h => h⟩
  | succ k ih =>
    obtain ⟨i1, i2, i3⟩ := ih (by omega)
    obtain ⟨j1, j2, j3⟩ := reads_up (K := K) (w := w) (h + k)
    exact ⟨fun e cs a => j1 e cs (i1 e cs a), fun e cs a => j2 e cs (i2 e cs a), fun e cs a => j3 e cs (i3 e cs a)⟩
theorem cells_keep {K : Nat → Prop} {W w : World} {b o : Nat} {cs : List Value} (hk : Keeps K W w) (kb : K b) (h : CellsAt W ⟨b, o, none⟩ cs) : CellsAt w ⟨b, o, none⟩ cs := fun j u hu =>
  (World.cell?_of_block (a := ⟨b, o + j, none⟩) (hk.block b kb)).trans (h j u hu)

section
variable {W : World} {K : Nat → Prop} {F : Prop}
theorem row_at {j h : Nat} {o : Option Addr} {xs : List Tr} {k : Nat} {x : Tr} (hr : RowOf K W (rd4 K W h j) (szK j) o xs) (hk : xs[k]? = some x) : AtH W K j h ⟨blkOf o, offOf o + k * szK j, none⟩ x := by
  have hne : xs ≠ [] := by intro e; rw [e] at hk; simp at hk
  obtain ⟨b, off, rfl, kb, -, hc⟩ := hr hne
  obtain ⟨cs, l1, c1, r1⟩ := hc k x hk
  exact ⟨rfl, kb, cs, l1, c1, r1⟩
theorem places_wt {j h h' : Nat} {o p : Option Addr} {xs ys : List Tr} (hx : RowOf K W (rd4 K W h j) (szK j) o xs) (hy : RowOf K W (rd4 K W h' j) (szK j) p ys) (hl : xs.length = ys.length) (hF : F → xs = ys) :
    ∀ n, n ≤ xs.length → WtL W K F j (places (blkOf o) (offOf o) (blkOf p) (offOf p) (szK j) n) ((xs.take n).map (ndh h)).sum := by
  intro n
  induction n with
  | zero => intro _; trivial
  | succ n ih =>
    intro hn
    have h1 : xs[n]? = some xs[n] := List.getElem?_eq_getElem (by omega)
    have h2 : ys[n]? = some (ys[n]'(by omega)) := List.getElem?_eq_getElem (by omega)
    rw [places_succ, List.take_add_one, h1, List.map_append, List.sum_append]
    refine (ih (by omega)).join ⟨h, xs[n], h', ys[n]'(by omega), 0, row_at hx h1, row_at hy h2, fun hf => ?_, by simp, trivial⟩
    have e := hF hf
    subst e
    rfl
theorem puts_wt {j h h' : Nat} {o p : Option Addr} {xs ys : List Tr} (ks : List (Addr × Addr)) (hx : RowOf K W (rd4 K W h j) (szK j) o xs) (hy : RowOf K W (rd4 K W h' j) (szK j) p ys) (hl : xs.length = ys.length) (hF : F → xs = ys) :
    WtL W K F j (puts ks o p (szK j) xs.length ys.length) (xs.map (ndh h)).sum := by
  unfold puts
  rw [if_pos hl]
  have key := places_wt hx hy hl hF xs.length (Nat.le_refl _)
  rw [List.take_length] at key
  exact key.adds ks
theorem puts_kids {j h h' : Nat} {o p : Option Addr} {xs ys : List Tr} {ks ks' : Nat → List (Addr × Addr)} (hx : RowOf K W (rd4 K W h j) (szK j) o xs) (hy : RowOf K W (rd4 K W h' j) (szK j) p ys) (hl : xs.length = ys.length) (he : ks' j = ks j ++ puts (ks j) o p (szK j) xs.length ys.length) : Kids W K ks' j xs ys := by
  intro k a b ha hb
  refine ⟨(⟨blkOf o, offOf o + k * szK j, none⟩, ⟨blkOf p, offOf p + k * szK j, none⟩), ⟨h, row_at hx ha⟩, ⟨h', row_at hy hb⟩, ?_⟩
  rw [he]
  unfold puts
  rw [if_pos hl]
  refine adds_has _ _ _ ?_
  unfold places
  refine List.mem_map.2 ⟨k, List.mem_range.2 (List.getElem?_eq_some_iff.1 ha).1, rfl⟩
end
theorem rootE_self (t : Tr) : rootE t t = true := by
  unfold rootE
  rw [(eqS_iff t.s t.s).2 rfl]
  simp
theorem rootE_parts {t u : Tr} (h : rootE t u = true) : (t.k = u.k ∧ t.s = u.s ∧ t.n = u.n) ∧ (t.l.length = u.l.length ∧ t.ds.length = u.ds.length ∧ t.al.length = u.al.length) := by
  unfold rootE at h
  simp only [Bool.and_eq_true, decide_eq_true_eq, eqS_iff] at h
  exact ⟨⟨h.1, h.2.1, h.2.2.1⟩, h.2.2.2⟩
theorem rootD_self (t : Tr) : rootD t t = true := by
  unfold rootD
  rw [(eqS_iff t.s t.s).2 rfl, (strsB_iff t.ss t.ss).2 rfl]
  simp
theorem rootD_parts {t u : Tr} (h : rootD t u = true) : t.s = u.s ∧ t.ss = u.ss ∧ t.ds.length = u.ds.length := by
  unfold rootD at h
  simp only [Bool.and_eq_true, decide_eq_true_eq, eqS_iff, strsB_iff] at h
  exact h

/-- What one look answers and leaves. -/
def Look (W : World) (K KP : Nat → Prop) (F : Prop) (g i h : Nat) (x y : Addr) (t u : Tr) (ls ks : Nat → List (Addr × Addr)) (e : Ending) (w' : World) : Prop :=
  ∃ b, e = .returned (.bool b) ∧ Keeps K W w' ∧ (b = false → t ≠ u) ∧ (b = true → ∃ ls' ks', HeldMem TT w' K g ls' ks' ∧ ((F → t = u) → Puts (W := W) (K := KP) (F := F) ls ks ls' ks' i (x, y) (ndh h t - 1)))
theorem list_sum_len (h : Nat) (f : Nat → Tr → Nat) (l : List Tr) (hf : ∀ x ∈ l, 1 ≤ f h x) : l.length ≤ (l.map (f h)).sum := by
  induction l with
  | nil => exact Nat.zero_le _
  | cons x r ih =>
    rw [List.length_cons, List.map_cons, List.sum_cons]
    have h1 := hf x (List.mem_cons_self ..)
    have h2 := ih fun y hy => hf y (List.mem_cons_of_mem _ hy)
    omega

theorem look_exp {W w : World} {K KP : Nat → Prop} {F : Prop} {g h h' : Nat} {x y : Addr} {t u : Tr} {ls ks : Nat → List (Addr × Addr)} (hKP : ∀ b, KP b → K b) (hk : Keeps K W w) (hp : ∀ b, KP b → PlainAt W ⟨b, 0, none⟩) (hh : HeldMem TT w K g ls ks) (ax : AtH W KP 0 h x t) (ay : AtH W KP 0 h' y u)
    (hn0 : (ls 0).length + t.l.length ≤ 10000000) (hn1 : (ls 1).length + t.ds.length ≤ 10000000) (hn2 : (ls 2).length + t.al.length ≤ 10000000) :
    Calls Try.prog 37 #[.pointer (some ⟨g, 0, none⟩), .pointer (some x), .pointer (some y)] w (Look W K KP F g 0 h x y t u ls ks) := by
  obtain ⟨xb, xo, xs⟩ := x
  obtain ⟨yb, yo, ys⟩ := y
  obtain ⟨sx, kx, cs, lc, cx, rx⟩ := ax
  obtain ⟨sy, ky, ds, ld, cy, ry⟩ := ay
  simp only at sx sy kx ky
  subst sx sy
  have rx2 : (reads KP W h).ex t cs := rx
  have ry2 : (reads KP W h').ex u ds := ry
  obtain ⟨o1, c1, o2, c2, o3, c3, rfl⟩ := ex_form rx2
  obtain ⟨p1, d1, p2, d2, p3, d3, rfl⟩ := ex_form ry2
  have st := (st_keeps hk).less hKP
  have RX := (reads_le (h' := max h h') (Nat.le_max_left _ _)).1 _ _ ((reads_frame st (fun _ h => h) h).1 _ _ rx2)
  have RY := (reads_le (h' := max h h') (Nat.le_max_right _ _)).1 _ _ ((reads_frame st (fun _ h => h) h').1 _ _ ry2)
  refine (held_exp xb xo yb yo g w K KP hKP ls ks hh t u o1 o2 o3 p1 p2 p3 c1 c2 c3 d1 d2 d3 RX RY (cells_keep hk (hKP _ kx) cx) (cells_keep hk (hKP _ ky) cy) kx ky (fun b hb => (hp b hb).block (hk.block b (hKP b hb))) hn0 hn1 hn2).mono ?_
  rintro e w' ⟨rfl, hk2, hm⟩
  refine ⟨rootE t u, rfl, hk.trans hk2, fun hb e => ?_, fun hb => ⟨_, _, hm hb, fun hF => ?_⟩⟩
  · rw [e, rootE_self] at hb; cases hb
  · obtain ⟨⟨k1, k2, k3⟩, l1, l2, l3⟩ := rootE_parts hb
    cases h with
    | zero => exact rx2.elim
    | succ h =>
    cases h' with
    | zero => exact ry2.elim
    | succ h' =>
    obtain ⟨z, o1', c1', o2', c2', o3', c3', e1, -, -, -, -, r1, r2, r3⟩ := rx2
    obtain ⟨z', p1', d1', p2', d2', p3', d3', e2, -, -, -, -, q1, q2, q3⟩ := ry2
    simp only [List.cons.injEq, Value.slice.injEq, true_and, and_true] at e1 e2
    obtain ⟨⟨rfl, rfl⟩, ⟨rfl, rfl⟩, rfl, rfl⟩ := e1
    obtain ⟨⟨rfl, rfl⟩, ⟨rfl, rfl⟩, rfl, rfl⟩ := e2
    refine ⟨⟨fun j => if j = 0 then puts (ks 0) o1 p1 6 t.l.length u.l.length else if j = 1 then puts (ks 1) o2 p2 9 t.ds.length u.ds.length else if j = 2 then puts (ks 2) o3 p3 8 t.al.length u.al.length else [], fun j hj => ?_, _, _, _, 0, puts_wt (j := 0) (ks 0) r1 q1 l1 (fun f => by rw [hF f]), puts_wt (j := 1) (ks 1) r2 q2 l2 (fun f => by rw [hF f]), puts_wt (j := 2) (ks 2) r3 q3 l3 (fun f => by rw [hF f]), trivial, ?_⟩, ?_⟩
    · match j, hj with
      | 0, _ => exact ⟨rfl, rfl⟩
      | 1, _ => exact ⟨rfl, rfl⟩
      | 2, _ => exact ⟨rfl, rfl⟩
      | 3, _ => exact ⟨(List.append_nil _).symm, (List.append_nil _).symm⟩
    · show _ ≤ 1 + (t.l.map (ndh h)).sum + (t.ds.map (ndh h)).sum + (t.al.map (ndh h)).sum - 1
      omega
    · exact ⟨t, u, ⟨_, rfl, kx, _, rfl, cx, rx⟩, ⟨_, rfl, ky, _, rfl, cy, ry⟩, ⟨k1, k2, k3, z.trans z'.symm⟩, ⟨l1, l2, l3⟩, puts_kids (j := 0) r1 q1 l1 rfl, puts_kids (j := 1) r2 q2 l2 rfl, puts_kids (j := 2) r3 q3 l3 rfl⟩
end Go.Proofs.Yteoghpefilghdal
