/- Made of ZWA, ZWB, ZWC, ZWD. -/
import Derived.Test.YtgeckgdmkjddpaaQ12
import Derived.Test.YtgeckgdmkjddpaaCZ
namespace Go.Proofs.Ytgeckgdmkjddpaa.Hd
open Go.ChangeShapes Go.WideShapes Go.ChangeAt Go.RowKit Go.Proofs.Ytgeckgdmkjddpaa.Br
set_option linter.unusedVariables false

def pk (x : Ls) : Pk := (x.i, x.o.getD ⟨0, 0, none⟩, x.n)
theorem least_any {α : Type} (G : Nat → α → Prop) : ∃ mu : α → Nat, ∀ w m, G m w → G (mu w) w ∧ mu w ≤ m := by
  have h : ∀ w, ∃ n, ∀ m, G m w → G n w ∧ n ≤ m := by
    intro w
    by_cases he : ∃ m, G m w
    · obtain ⟨m, hm⟩ := he
      induction m using Nat.strongRecOn with
      | ind m ih =>
        by_cases hl : ∃ k, k < m ∧ G k w
        · obtain ⟨k, hk, hg⟩ := hl
          exact ih k hk hg
        · refine ⟨m, fun k hk => ⟨hm, ?_⟩⟩
          rcases Nat.lt_or_ge k m with h1 | h1
          · exact absurd ⟨k, h1, hk⟩ hl
          · exact h1
    · exact ⟨0, fun m hm => absurd ⟨m, hm⟩ he⟩
  obtain ⟨f, hf⟩ := Classical.axiomOfChoice h
  exact ⟨f, fun w m hm => hf w m hm⟩
def mx (l : List Nat) : Nat := l.foldl max 0
theorem le_mx : ∀ (l : List Nat) (x : Nat), x ∈ l → x ≤ mx l := by
  have key : ∀ (l : List Nat) (a : Nat), a ≤ l.foldl max a ∧ ∀ x ∈ l, x ≤ l.foldl max a := by
    intro l
    induction l with
    | nil => intro a; exact ⟨Nat.le_refl _, fun x hx => by cases hx⟩
    | cons y l ih =>
      intro a
      obtain ⟨h1, h2⟩ := ih (max a y)
      refine ⟨Nat.le_trans (Nat.le_max_left _ _) h1, fun x hx => ?_⟩
      rcases List.mem_cons.1 hx with rfl | hx
      · exact Nat.le_trans (Nat.le_max_right _ _) h1
      · exact h2 x hx
  exact fun l x hx => (key l 0).2 x hx
def sumTo (f : Nat → Nat) : Nat → Nat
  | 0 => 0
  | n + 1 => sumTo f n + f n
/-- How many names an element has; whether it has a Where. -/
def pn (w : World) (i b off j : Nat) : Nat := lenAt w b (off + j * szI i + 1)
def wn (w : World) (i b off j : Nat) : Nat := if lenAt w b (off + j * szI i + 8) = 0 then 0 else 1
/-- What bytes answers, and what bareBytes answers. -/
def by1 (w : World) (x : Ls) : Nat := match x.o with
  | some a => if x.i = 0 then x.n * 104 else if x.i = 1 then x.n * 168 + sumTo (fun j => pn w 1 a.block a.off j * 16) x.n else x.n * 144 + sumTo (fun j => pn w 2 a.block a.off j * 16) x.n
  | none => 0
def bb (w : World) (x : Ls) : Nat := match x.o with
  | some a => if x.i = 1 then by1 w x + sumTo (fun j => pn w 1 a.block a.off j * 88 + wn w 1 a.block a.off j * 104) x.n else by1 w x
  | none => 0
section
variable {K : Nat → Prop} {w : World}
/-- A list that can be read, of a weight. -/
def Sub (K : Nat → Prop) (w : World) (F : Nat) (x : Ls) : Prop := ∃ h xs, Rd K w h x xs ∧ lw (wtI h x.i) xs ≤ F
theorem wt_some {l : List Ls} {m : Nat} (h : WtL K w l m) : ∀ y ∈ l, Sub K w m y := fun y hy => by
  obtain ⟨h', xs, h1, h2⟩ := h.all y hy
  exact ⟨h', xs, h1, h2⟩
theorem Sub.mono {F G : Nat} {x : Ls} (h : Sub K w F x) (hg : F ≤ G) : Sub K w G x := by
  obtain ⟨h', xs, h1, h2⟩ := h
  exact ⟨h', xs, h1, by omega⟩
theorem Sub.pos {F : Nat} {x : Ls} (h : Sub K w F x) : ∃ f, F = f + 1 := by
  obtain ⟨h', xs, h1, h2⟩ := h
  have := lw_pos (f := wtI h' x.i) h1.2.1
  exact ⟨F - 1, by omega⟩
theorem Sub.kids {F : Nat} {x : Ls} (h : Sub K w (F + 1) x) : WtL K w (kids w x) F := by
  obtain ⟨h', xs, h1, h2⟩ := h
  have h3 := h1.kids
  exact h3.1.mono (by omega)
/-- Something worked out of a list from the bottom up. -/
def fd (g : Ls → List Nat → Nat) (w : World) : Nat → Ls → Nat
  | 0, x => g x []
  | f + 1, x => g x ((kids w x).map (fd g w f))
theorem fd_stable (g : Ls → List Nat → Nat) : ∀ n x, Sub K w n x → ∀ f, n ≤ f → fd g w f x = fd g w n x := by
  intro n
  induction n with
  | zero =>
    intro x hx
    obtain ⟨f, e⟩ := hx.pos
    cases e
  | succ n ih =>
    intro x hx f hf
    obtain ⟨f, rfl⟩ : ∃ f', f = f' + 1 := ⟨f - 1, by omega⟩
    show g x _ = g x _
    congr 1
    exact List.map_congr_left fun y hy => ih y (wt_some hx.kids y hy) f (by omega)
theorem fd_step (g : Ls → List Nat → Nat) {F : Nat} {x : Ls} (h : Sub K w F x) : fd g w F x = g x ((kids w x).map (fd g w F)) := by
  obtain ⟨f, rfl⟩ := h.pos
  show g x _ = g x _
  congr 1
  exact List.map_congr_left fun y hy => (fd_stable g f y (wt_some h.kids y hy) (f + 1) (by omega)).symm
theorem sub_kid {F : Nat} {x y : Ls} (h : Sub K w F x) (hy : y ∈ kids w x) : Sub K w F y := by
  obtain ⟨f, rfl⟩ := h.pos
  exact (wt_some h.kids y hy).mono (by omega)
def gD (_ : Ls) (l : List Nat) : Nat := mx l + 1
def gW (_ : Ls) (l : List Nat) : Nat := l.sum + 1
def gB (w : World) (x : Ls) (l : List Nat) : Nat := bb w x + l.sum
theorem wt_sum {f : Ls → Nat} {c n : Nat} : ∀ (l : List Ls) (m : Nat), (∀ (h : Nat) (x : Ls) (xs : List Tr), Rd K w h x xs → lw (wtI h x.i) xs ≤ n → f x ≤ c * lw (wtI h x.i) xs) → WtL K w l m → m ≤ n → (l.map f).sum ≤ c * m
  | [], m, _, _, _ => Nat.zero_le _
  | x :: l, m, hf, h, hn => by
    obtain ⟨h', xs, k, h1, h2, h3⟩ := h
    have h4 := hf h' x xs h1 (by omega)
    have h5 := wt_sum l k hf h3 (by omega)
    have h6 : c * (lw (wtI h' x.i) xs + k) ≤ c * m := Nat.mul_le_mul_left c h2
    rw [Nat.mul_add] at h6
    simp only [List.map_cons, List.sum_cons]
    omega
theorem fd_wt : ∀ n h x xs, Rd K w h x xs → lw (wtI h x.i) xs ≤ n → fd gW w n x ≤ lw (wtI h x.i) xs := by
  intro n
  induction n with
  | zero =>
    intro h x xs hr hn
    have := lw_pos (f := wtI h x.i) hr.2.1
    omega
  | succ n ih =>
    intro h x xs hr hn
    have h3 := hr.kids
    show ((kids w x).map (fd gW w n)).sum + 1 ≤ _
    have h5 := wt_sum (f := fd gW w n) (c := 1) (n := n) (kids w x) _ (fun h' y ys hy hle => by have := ih h' y ys hy hle; omega) h3.1 (by omega)
    omega
/-- An element's lists, and its names, weigh no more than the element. -/
theorem kOne_wt {h i b p : Nat} {t : Tr} {cs : List Value} (hi : i < 3) (hc : ∀ j u, cs[j]? = some u → w.cell? ⟨b, p + j, none⟩ = some u) (hr : rdI K w h i t cs) :
    ∃ m, WtL K w (kOne w i b p) m ∧ (if i = 0 then 0 else lenAt w b (p + 1)) + m ≤ wtI h i t := by
  have hcases : i = 0 ∨ i = 1 ∨ i = 2 := by omega
  rcases hcases with rfl | rfl | rfl
  · exact ⟨_, (kOne_facts (by omega) hc hr).2, by simp⟩
  · cases h with
    | zero => exact hr.elim
    | succ h =>
      obtain ⟨-, -, -, e, o1, c1, ce, o2, c2, hl, rfl, -, f1, f2, -, lce, rce, r2⟩ := hr
      have hce : ∀ j u, ce[j]? = some u → w.cell? ⟨b, (p + 2) + j, none⟩ = some u := by
        intro j u hj
        have hj2 : j < ce.length := (List.getElem?_eq_some_iff.1 hj).1
        have h9 := hc (2 + j) u (by
          rw [List.getElem?_append_left (by simp; omega), List.getElem?_append_right (by simp)]
          simpa using hj)
        rw [show p + 2 + j = p + (2 + j) by omega]
        exact h9
      have hw8 := hc 8 (.slice o2 t.ds.length c2) (by
        rw [List.getElem?_append_right (by simp [lce])]
        simp [lce])
      have hw1 := hc 1 (.slice o1 t.ss.length c1) rfl
      obtain ⟨d1, d2, d3⟩ := one_facts (h := h) (i := 1) (b := b) (p := p + 8) (by omega) hw8 f2 r2
      have l1 : lenAt w b (p + 1) = t.ss.length := by unfold lenAt; rw [hw1]
      cases h with
      | zero => exact rce.elim
      | succ h =>
        obtain ⟨x1, x2⟩ := kE_facts hce rce
        refine ⟨_, show WtL K w (kE w b (p + 2) ++ slAt w b (p + 8) 1) _ from x2.join d2, ?_⟩
        rw [if_neg (by decide), l1]
        show t.ss.length + ((wts (h + 1)).ex e + lw (wts (h + 1)).de t.ds) ≤ t.s.size + sw t.ss + (t.l.map (wts (h + 1)).ex).sum + lw (wts (h + 1)).de t.ds
        rw [hl]
        unfold sw
        simp only [List.map_cons, List.map_nil, List.sum_cons, List.sum_nil]
        omega
  · cases h with
    | zero => exact hr.elim
    | succ h =>
      obtain ⟨-, -, -, -, e, o1, c1, ce, hl, rfl, -, f1, -, lce, rce⟩ := hr
      have hce : ∀ j u, ce[j]? = some u → w.cell? ⟨b, (p + 2) + j, none⟩ = some u := by
        intro j u hj
        have h9 := hc (2 + j) u (by
          rw [List.getElem?_append_right (by simp)]
          simpa using hj)
        rw [show p + 2 + j = p + (2 + j) by omega]
        exact h9
      have hw1 := hc 1 (.slice o1 t.ss.length c1) rfl
      have l1 : lenAt w b (p + 1) = t.ss.length := by unfold lenAt; rw [hw1]
      cases h with
      | zero => exact rce.elim
      | succ h =>
        obtain ⟨x1, x2⟩ := kE_facts hce rce
        refine ⟨_, show WtL K w (kE w b (p + 2)) _ from x2, ?_⟩
        rw [if_neg (by decide), l1]
        show t.ss.length + (wts (h + 1)).ex e ≤ t.s.size + sw t.ss + (t.l.map (wts (h + 1)).ex).sum
        rw [hl]
        unfold sw
        simp only [List.map_cons, List.map_nil, List.sum_cons, List.sum_nil]
        omega
theorem wn_le (w : World) (i b off j : Nat) : wn w i b off j ≤ 1 := by unfold wn; split <;> omega
/-- What a list becomes takes at most 300 bytes for each of its weight, the lists in it aside. -/
theorem Rd.room {h : Nat} {x : Ls} {xs : List Tr} (hr : Rd K w h x xs) : ∃ m, WtL K w (kids w x) m ∧ bb w x + 300 * m ≤ 300 * lw (wtI h x.i) xs ∧ m + 1 ≤ lw (wtI h x.i) xs := by
  have hx := hr
  obtain ⟨b, off, e1, -, -, e4⟩ := hr.at
  have hlen := List.length_pos_iff.2 hx.2.1
  have key : ∀ n, n ≤ xs.length → ∃ m, WtL K w ((List.range n).flatMap fun j => kOne w x.i b (off + j * szI x.i)) m ∧ (if x.i = 0 then 0 else sumTo (fun j => pn w x.i b off j) n) + m ≤ ((xs.take n).map (wtI h x.i)).sum := by
    intro n
    induction n with
    | zero => intro _; exact ⟨0, trivial, by split <;> simp [sumTo]⟩
    | succ n ih =>
      intro hn
      have h1 : xs[n]? = some xs[n] := List.getElem?_eq_getElem (by omega)
      obtain ⟨cs, -, c1, c2⟩ := e4 n _ h1
      obtain ⟨m1, i1, i2⟩ := ih (by omega)
      obtain ⟨m2, j1, j2⟩ := kOne_wt hx.1 c1 c2
      refine ⟨m1 + m2, ?_, ?_⟩
      · rw [List.range_succ, List.flatMap_append]
        refine i1.join ?_
        simpa only [List.flatMap_cons, List.flatMap_nil, List.append_nil] using j1
      · rw [List.take_add_one, h1, List.map_append, List.sum_append]
        simp only [Option.toList_some, List.map_cons, List.map_nil, List.sum_cons, List.sum_nil, Nat.add_zero]
        by_cases e0 : x.i = 0
        · rw [if_pos e0] at i2 j2 ⊢
          omega
        · rw [if_neg e0] at i2 j2 ⊢
          simp only [sumTo]
          have : pn w x.i b off n = lenAt w b (off + n * szI x.i + 1) := rfl
          omega
  obtain ⟨m, k1, k2⟩ := key xs.length (Nat.le_refl _)
  rw [List.take_length] at k2
  have hmul : ∀ (f : Nat → Nat) (c n : Nat), sumTo (fun j => f j * c) n = sumTo f n * c := by
    intro f c n
    induction n with
    | zero => simp [sumTo]
    | succ n ih => simp only [sumTo, ih, Nat.add_mul]
  have hmul2 : ∀ n : Nat, sumTo (fun j => pn w 1 b off j * 88 + wn w 1 b off j * 104) n ≤ sumTo (fun j => pn w 1 b off j) n * 88 + n * 104 := by
    intro n
    induction n with
    | zero => simp [sumTo]
    | succ n ih =>
      simp only [sumTo]
      have := wn_le w 1 b off n
      omega
  refine ⟨m, ?_, ?_, ?_⟩
  · unfold Br.kids
    rw [e1, hx.2.2.1]
    exact k1
  · have hn := hx.2.2.1
    have hi := hx.1
    unfold bb by1 lw
    rw [e1]
    simp only
    have hcases : x.i = 0 ∨ x.i = 1 ∨ x.i = 2 := by omega
    rcases hcases with e | e | e
    · rw [e] at k2 ⊢
      rw [if_pos rfl] at k2
      rw [if_neg (by decide), if_pos rfl]
      omega
    · rw [e] at k2 ⊢
      rw [if_neg (by decide)] at k2
      rw [if_pos rfl, if_neg (by decide), if_pos rfl]
      have h1 := hmul (fun j => pn w 1 b off j) 16 x.n
      have h2 := hmul2 x.n
      rw [hn] at h1 h2 ⊢
      try simp only at h1
      omega
    · rw [e] at k2 ⊢
      rw [if_neg (by decide)] at k2
      rw [if_neg (by decide), if_neg (by decide), if_neg (by decide)]
      have h1 := hmul (fun j => pn w 2 b off j) 16 x.n
      rw [hn] at h1 ⊢
      try simp only at h1
      omega
  · unfold lw
    have : (if x.i = 0 then 0 else sumTo (fun j => pn w x.i b off j) xs.length) + m ≤ (xs.map (wtI h x.i)).sum := k2
    omega
theorem fd_by : ∀ n h x xs, Rd K w h x xs → lw (wtI h x.i) xs ≤ n → fd (gB w) w n x ≤ 300 * lw (wtI h x.i) xs := by
  intro n
  induction n with
  | zero =>
    intro h x xs hr hn
    have := lw_pos (f := wtI h x.i) hr.2.1
    omega
  | succ n ih =>
    intro h x xs hr hn
    obtain ⟨m, h3, h4, h6⟩ := Rd.room hr
    show bb w x + ((kids w x).map (fd (gB w) w n)).sum ≤ _
    have h5 := wt_sum (f := fd (gB w) w n) (c := 300) (n := n) (kids w x) m ih h3 (by omega)
    omega
theorem sub_by {F : Nat} {x : Ls} (h : Sub K w F x) : fd (gB w) w F x ≤ 300 * F := by
  obtain ⟨h', xs, h1, h2⟩ := h
  have := fd_by F h' x xs h1 h2
  omega
theorem sub_wt {F : Nat} {x : Ls} (h : Sub K w F x) : fd gW w F x ≤ F := by
  obtain ⟨h', xs, h1, h2⟩ := h
  have := fd_wt F h' x xs h1 h2
  omega
end
/-- What a walk of lists wants of them. -/
structure Fam (kd : Ls → List Ls) (P : Ls → Prop) (dd ww : Ls → Nat) : Prop where
  sub : ∀ x y, P x → y ∈ kd x → P y
  deep : ∀ x, P x → dd x = mx ((kd x).map dd) + 1
  same : ∀ x y, P x → P y → pk x = pk y → kd x = kd y
  wt : ∀ x, P x → ww x = ((kd x).map ww).sum + 1
theorem Fam.less {kd : Ls → List Ls} {P : Ls → Prop} {dd ww : Ls → Nat} (f : Fam kd P dd ww) {x y : Ls} (hx : P x) (hy : y ∈ kd x) : dd y < dd x := by
  have h1 := f.deep x hx
  have h2 := le_mx _ (dd y) (List.mem_map_of_mem hy)
  omega
theorem fam (K : Nat → Prop) (w : World) (F : Nat) : Fam (kids w) (Sub K w F) (fd gD w F) (fd gW w F) := by
  refine ⟨fun x y hx hy => sub_kid hx hy, fun x hx => fd_step gD hx, fun x y hx hy hp => ?_, fun x hx => fd_step gW hx⟩
  obtain ⟨_, _, r1, -⟩ := hx
  obtain ⟨_, _, r2, -⟩ := hy
  obtain ⟨b1, o1, e1, -⟩ := r1.at
  obtain ⟨b2, o2, e2, -⟩ := r2.at
  unfold pk at hp
  unfold Br.kids
  rw [e1, e2] at hp ⊢
  simp only [Option.getD_some, Prod.mk.injEq] at hp
  rw [hp.2.2, hp.2.1, hp.1]
/-- How many bytes the list at a place takes. -/
def byl (w : World) (F : Nat) (k : Pk) : Nat := fd (gB w) w F ⟨k.1, some k.2.1, k.2.2, 0⟩
theorem fd_c (w : World) (F : Nat) (i : Nat) (o : Option Addr) (n c c' : Nat) : fd (gB w) w F ⟨i, o, n, c⟩ = fd (gB w) w F ⟨i, o, n, c'⟩ := by
  cases F with
  | zero => rfl
  | succ F => rfl
theorem byl_pk {K : Nat → Prop} {w : World} {F : Nat} {x : Ls} (h : Sub K w F x) : byl w F (pk x) = fd (gB w) w F x := by
  obtain ⟨_, _, r1, -⟩ := h
  obtain ⟨b, off, e, -⟩ := r1.at
  obtain ⟨i, o, n, c⟩ := x
  simp only at e
  subst e
  exact fd_c w F i _ n 0 c
theorem byl_step {K : Nat → Prop} {w : World} {F : Nat} {x : Ls} (h : Sub K w F x) : byl w F (pk x) = bb w x + ((kids w x).map fun y => byl w F (pk y)).sum := by
  rw [byl_pk h, fd_step (gB w) h]
  unfold gB
  congr 2
  exact List.map_congr_left fun y hy => (byl_pk (sub_kid h hy)).symm
theorem byl_le {K : Nat → Prop} {w : World} {F : Nat} {x : Ls} (h : Sub K w F x) : byl w F (pk x) ≤ 300 * F := by
  rw [byl_pk h]
  exact sub_by h
theorem kid_facts {K : Nat → Prop} {w : World} {F : Nat} {x : Ls} (h : Sub K w F x) : ∃ b off, x.o = some ⟨b, off, none⟩ ∧ K b ∧ x.n ≠ 0 ∧ x.n ≤ maxLen ∧ x.n ≤ x.c ∧ x.i < 3 := by
  obtain ⟨_, xs, hr, -⟩ := h
  obtain ⟨b, off, e, hk, -⟩ := hr.at
  obtain ⟨h0, h1, h2, h3, -⟩ := hr
  have := List.length_pos_iff.2 h1
  exact ⟨b, off, e, hk, by omega, by rw [h2]; exact h3.1, by rw [h2]; exact h3.2, h0⟩
end Go.Proofs.Ytgeckgdmkjddpaa.Hd
namespace Go.Proofs.Ytgeckgdmkjddpaa.Hd
open Go.RowKit Go.Proofs.Ytgeckgdmkjddpaa.Vo Go.Proofs.Ytgeckgdmkjddpaa.Br
set_option linter.unusedVariables false

/-- Those that are not among ks. -/
def fresh (ks : List Pk) (l : List Ls) : List Ls := l.filter fun y => decide (pk y ∉ ks)
theorem fresh_snoc (ks : List Pk) (l : List Ls) (y : Ls) : fresh ks (l ++ [y]) = fresh ks l ++ if pk y ∈ ks then [] else [y] := by
  unfold fresh
  rw [List.filter_append]
  congr 1
  by_cases h : pk y ∈ ks <;> simp [h]
/-- How many steps are left at most. -/
def cost (ww : Ls → Nat) (bs : List Pk) (l : List Ls) : Nat := (l.map fun x => if pk x ∈ bs then 1 else 2 * ww x).sum
/-- What is left, what has begun, what has ended. -/
structure DI (kd : Ls → List Ls) (P : Ls → Prop) (dd : Ls → Nat) (root : Ls) (left ys : List Ls) (bs es : List Pk) : Prop where
  p : ∀ x ∈ left, P x
  py : ∀ z ∈ ys, P z
  e : ∀ k, k ∈ es ↔ ∃ z ∈ ys, pk z = k
  b : ∀ k ∈ bs, ∃ z, P z ∧ pk z = k
  i1 : ∀ a x c, left = a ++ x :: c → pk x ∈ bs → ∀ y ∈ kd x, pk y ∈ es ∨ ∃ z ∈ c, pk z = pk y
  i2 : ∀ k ∈ bs, k ∈ es ∨ ∃ a x c, left = a ++ x :: c ∧ pk x = k ∧ ∀ z ∈ c, dd z < dd x
  root : pk root ∈ es ∨ ∃ z ∈ left, pk z = pk root
section
variable {kd : Ls → List Ls} {P : Ls → Prop} {dd ww : Ls → Nat} {root : Ls} {left ys : List Ls} {bs es : List Pk} {x : Ls}
theorem DI.start (hP : P root) : DI kd P dd root [root] [] [] [] :=
  ⟨fun x hx => by rw [List.mem_singleton.1 hx]; exact hP, fun z hz => (by cases hz), fun k => ⟨fun h => (by cases h), fun ⟨z, hz, _⟩ => (by cases hz)⟩, fun k hk => (by cases hk), fun a x c _ h => (by cases h), fun k hk => (by cases hk), .inr ⟨root, by simp, rfl⟩⟩
theorem DI.done (h : DI kd P dd root [] ys bs es) : ∃ z ∈ ys, pk z = pk root := by
  rcases h.root with h1 | ⟨z, hz, -⟩
  · exact (h.e _).1 h1
  · cases hz
/-- The last one begins. -/
theorem DI.begin (f : Fam kd P dd ww) (h : DI kd P dd root (left ++ [x]) ys bs es) (hx : pk x ∉ bs) :
    DI kd P dd root (left ++ [x] ++ fresh (addK bs (pk x)) (kd x)) ys (addK bs (pk x)) es ∧ cost ww (addK bs (pk x)) (left ++ [x] ++ fresh (addK bs (pk x)) (kd x)) < cost ww bs (left ++ [x]) := by
  have hPx : P x := h.p x (by simp)
  have hfm : ∀ y, y ∈ fresh (addK bs (pk x)) (kd x) ↔ y ∈ kd x ∧ pk y ∉ addK bs (pk x) := fun y => by unfold fresh; simp
  -- a list within that has begun has ended
  have hend : ∀ y ∈ kd x, pk y ∈ addK bs (pk x) → pk y ∈ es := by
    intro y hy hb
    have hl := f.less hPx hy
    rcases (mem_addK _ _ _).1 hb with hb | hb
    · rcases h.i2 _ hb with h1 | ⟨a, z, c, e1, e2, e3⟩
      · exact h1
      · exfalso
        have hPz : P z := h.p z (by rw [e1]; simp)
        have hPy := f.sub x y hPx hy
        have hdz : dd z = dd y := by
          rw [f.deep z hPz, f.deep y hPy, f.same z y hPz hPy e2]
        rcases List.eq_nil_or_concat c with rfl | ⟨c', u, rfl⟩
        · have h9 : x = z := by
            have := congrArg List.getLast? e1
            simpa using this
          rw [← h9] at e2
          exact hx (e2 ▸ hb)
        · have h9 : x = u := by
            rw [List.concat_eq_append, ← List.cons_append, ← List.append_assoc] at e1
            simpa using (List.append_inj' e1 rfl).2
          have := e3 x (by rw [h9]; simp)
          omega
    · exfalso
      have hPy := f.sub x y hPx hy
      have : dd y = dd x := by rw [f.deep y hPy, f.deep x hPx, f.same y x hPy hPx hb]
      omega
  refine ⟨⟨fun y hy => ?_, h.py, h.e, fun k hk => ?_, ?_, fun k hk => ?_, ?_⟩, ?_⟩
  · rcases List.mem_append.1 hy with h1 | h1
    · exact h.p y h1
    · exact f.sub x y hPx ((hfm y).1 h1).1
  · rcases (mem_addK _ _ _).1 hk with h1 | h1
    · exact h.b k h1
    · exact ⟨x, hPx, h1.symm⟩
  · intro a z c e1 hz y hy
    rcases List.append_eq_append_iff.1 e1 with ⟨d, e2, e3⟩ | ⟨d, e2, e3⟩
    · -- z stands among the new ones
      have hz2 : z ∈ fresh (addK bs (pk x)) (kd x) := by rw [e3]; simp
      exact absurd hz ((hfm z).1 hz2).2
    · cases d with
      | nil =>
        have hz2 : z ∈ fresh (addK bs (pk x)) (kd x) := by simp at e3; rw [← e3]; simp
        exact absurd hz ((hfm z).1 hz2).2
      | cons z' d =>
        simp only [List.cons_append, List.cons.injEq] at e3
        obtain ⟨rfl, e3⟩ := e3
        by_cases hzx : pk z = pk x
        · have hPz : P z := h.p z (by rw [e2]; simp)
          have hk : kd z = kd x := f.same z x hPz hPx hzx
          rw [hk] at hy
          by_cases hb : pk y ∈ addK bs (pk x)
          · exact .inl (hend y hy hb)
          · exact .inr ⟨y, by rw [e3]; exact List.mem_append_right _ ((hfm y).2 ⟨hy, hb⟩), rfl⟩
        · have hzb : pk z ∈ bs := ((mem_addK _ _ _).1 hz).resolve_right hzx
          rcases h.i1 a z d e2 hzb y hy with h1 | ⟨u, hu, eu⟩
          · exact .inl h1
          · exact .inr ⟨u, by rw [e3]; exact List.mem_append_left _ hu, eu⟩
  · rcases (mem_addK _ _ _).1 hk with h1 | h1
    · rcases h.i2 k h1 with h2 | ⟨a, z, c, e1, e2, e3⟩
      · exact .inl h2
      · refine .inr ⟨a, z, c ++ fresh (addK bs (pk x)) (kd x), by rw [e1]; simp, e2, fun u hu => ?_⟩
        rcases List.mem_append.1 hu with hu | hu
        · exact e3 u hu
        · have hl := f.less hPx ((hfm u).1 hu).1
          rcases List.eq_nil_or_concat c with rfl | ⟨c', v, rfl⟩
          · have h9 : x = z := by
              have := congrArg List.getLast? e1
              simpa using this
            rw [← h9] at e2
            exact absurd (e2 ▸ h1) hx
          · have h9 : x = v := by
              rw [List.concat_eq_append, ← List.cons_append, ← List.append_assoc] at e1
              simpa using (List.append_inj' e1 rfl).2
            have := e3 x (by rw [h9]; simp)
            omega
    · refine .inr ⟨left, x, fresh (addK bs (pk x)) (kd x), by simp, h1.symm, fun u hu => f.less hPx ((hfm u).1 hu).1⟩
  · rcases h.root with h1 | ⟨z, hz, ez⟩
    · exact .inl h1
    · exact .inr ⟨z, List.mem_append_left _ hz, ez⟩
  · have hm : ∀ l : List Ls, (∀ y ∈ l, P y) → cost ww (addK bs (pk x)) l ≤ cost ww bs l := by
      intro l
      induction l with
      | nil => intro _; exact Nat.le_refl _
      | cons y l ih =>
        intro hl
        have h1 := ih fun z hz => hl z (by simp [hz])
        have h2 : (if pk y ∈ addK bs (pk x) then 1 else 2 * ww y) ≤ if pk y ∈ bs then 1 else 2 * ww y := by
          have := f.wt y (hl y (by simp))
          by_cases h3 : pk y ∈ bs
          · rw [if_pos h3, if_pos ((mem_addK _ _ _).2 (.inl h3))]
            exact Nat.le_refl _
          · rw [if_neg h3]
            split <;> omega
        unfold cost at h1 ⊢
        simp only [List.map_cons, List.sum_cons]
        omega
    have hk : ∀ l : List Ls, cost ww (addK bs (pk x)) (fresh (addK bs (pk x)) l) ≤ 2 * (l.map ww).sum := by
      intro l
      induction l with
      | nil => exact Nat.le_refl _
      | cons y l ih =>
        unfold fresh at ih ⊢
        rw [List.filter_cons]
        split
        · rename_i h3
          have h3' : pk y ∉ addK bs (pk x) := by simpa using h3
          unfold cost at ih ⊢
          simp only [List.map_cons, List.sum_cons]
          rw [if_neg h3']
          omega
        · simp only [List.map_cons, List.sum_cons]
          omega
    have h1 := hm left fun y hy => h.p y (by simp [hy])
    have h2 := hk (kd x)
    have h3 := f.wt x hPx
    unfold cost at h1 h2 ⊢
    simp only [List.map_append, List.sum_append, List.map_cons, List.map_nil, List.sum_cons, List.sum_nil]
    rw [if_pos ((mem_addK bs (pk x) (pk x)).2 (.inr rfl)), if_neg hx]
    omega
/-- All in the last one has ended, if it has begun. -/
theorem DI.within (h : DI kd P dd root (left ++ [x]) ys bs es) (hx : pk x ∈ bs) : ∀ y ∈ kd x, ∃ z ∈ ys, pk z = pk y := by
  intro y hy
  rcases h.i1 left x [] rfl hx y hy with h1 | ⟨z, hz, -⟩
  · exact (h.e _).1 h1
  · cases hz
theorem DI.cost_pop (f : Fam kd P dd ww) (h : DI kd P dd root (left ++ [x]) ys bs es) : cost ww bs left < cost ww bs (left ++ [x]) := by
  have h1 := f.wt x (h.p x (by simp))
  unfold cost
  simp only [List.map_append, List.sum_append, List.map_cons, List.map_nil, List.sum_cons, List.sum_nil]
  split <;> omega
theorem DI.pop' {ys' : List Ls} {es' : List Pk} (h : DI kd P dd root (left ++ [x]) ys bs es) (hee : ∀ k, k ∈ es' ↔ k ∈ es ∨ k = pk x) (hpy : ∀ z ∈ ys', P z) (he : ∀ k, k ∈ es' ↔ ∃ z ∈ ys', pk z = k) : DI kd P dd root left ys' bs es' := by
  refine ⟨fun y hy => h.p y (by simp [hy]), hpy, he, h.b, fun a z c e1 hz y hy => ?_, fun k hk => ?_, ?_⟩
  · rcases h.i1 a z (c ++ [x]) (by rw [e1]; simp) hz y hy with h1 | ⟨u, hu, eu⟩
    · exact .inl ((hee _).2 (.inl h1))
    · rcases List.mem_append.1 hu with h2 | h2
      · exact .inr ⟨u, h2, eu⟩
      · rw [List.mem_singleton] at h2
        exact .inl ((hee _).2 (.inr (by rw [← eu, h2])))
  · rcases h.i2 k hk with h1 | ⟨a, z, c, e1, e2, e3⟩
    · exact .inl ((hee _).2 (.inl h1))
    · rcases List.eq_nil_or_concat c with rfl | ⟨c', v, rfl⟩
      · have h9 : x = z := by
          have := congrArg List.getLast? e1
          simpa using this
        exact .inl ((hee _).2 (.inr (by rw [← e2, h9])))
      · rw [List.concat_eq_append, ← List.cons_append, ← List.append_assoc] at e1
        have h9 := List.append_inj' e1 rfl
        exact .inr ⟨a, z, c', h9.1, e2, fun u hu => e3 u (by simp [hu])⟩
  · rcases h.root with h1 | ⟨z, hz, ez⟩
    · exact .inl ((hee _).2 (.inl h1))
    · rcases List.mem_append.1 hz with h2 | h2
      · exact .inr ⟨z, h2, ez⟩
      · rw [List.mem_singleton] at h2
        exact .inl ((hee _).2 (.inr (by rw [← ez, h2])))
/-- The last one ends. -/
theorem DI.fin (h : DI kd P dd root (left ++ [x]) ys bs es) : DI kd P dd root left (ys ++ [x]) bs (addK es (pk x)) := by
  refine h.pop' (mem_addK es (pk x)) (fun z hz => ?_) fun k => ?_
  · rcases List.mem_append.1 hz with h1 | h1
    · exact h.py z h1
    · rw [List.mem_singleton.1 h1]
      exact h.p x (by simp)
  · rw [mem_addK, h.e]
    constructor
    · rintro (⟨z, hz, ez⟩ | rfl)
      · exact ⟨z, by simp [hz], ez⟩
      · exact ⟨x, by simp, rfl⟩
    · rintro ⟨z, hz, ez⟩
      rcases List.mem_append.1 hz with h1 | h1
      · exact .inl ⟨z, h1, ez⟩
      · rw [List.mem_singleton] at h1
        exact .inr (by rw [← ez, h1])
/-- The last one has ended already. -/
theorem DI.again (h : DI kd P dd root (left ++ [x]) ys bs es) (hx : pk x ∈ es) : DI kd P dd root left ys bs es :=
  h.pop' (fun k => ⟨.inl, fun h1 => h1.elim id fun e => e ▸ hx⟩) h.py h.e
end
end Go.Proofs.Ytgeckgdmkjddpaa.Hd
namespace Go.Proofs.Ytgeckgdmkjddpaa.Hd
open Go.ChangeShapes Go.WideShapes Go.ChangeAt Go.RowKit Go.Proofs.Ytgeckgdmkjddpaa.Vo Go.Proofs.Ytgeckgdmkjddpaa.Br
open Go.ChangeMaps (setBlock heap_setBlock_same heap_setBlock_other)
set_option linter.unusedVariables false

/-- Each of these places is one, and can be read. -/
def OkK (w : World) (ks : List Pk) : Prop := ∀ b ∈ ks, b.1 < 3 ∧ PlainAt w b.2.1
theorem findsV_place {w : World} {V : Pk → Value} {k : Pk} (hk : k.1 < 3) (ha : PlainAt w k.2.1) {es : Array MapEntry} {ks : List Pk} (hs : MpIs kvP V es ks) (hp : OkK w ks) : FindsV Try.prog 115 w kvP V k es.toList ks := by
  have key := asksV (P := Try.prog) (t := 115) (w := w) (kv := kvP) (V := V) (k := k) es.toList ks 0 hs fun b hb => eqPlace hk (hp b hb).1 w ha (hp b hb).2
  obtain ⟨fs, hu⟩ : ∃ fs, Try.prog.underlying 115 = some (.struct fs) := ⟨_, Try.underlying115⟩
  cases hes : es.toList with
  | nil =>
    have hk2 := hs.keys
    rw [hes] at hk2
    have : ks = [] := by
      simp at hk2
      exact hk2
    subst this
    exact .inl ⟨by simp, by simp [Instr.findKey, run_underlying hu, Instr.findNow]⟩
  | cons e r =>
    rw [hes] at key
    have hn : Instr.findNow (.struct fs) (kvP k) (e :: r) 0 = none := by simp [Instr.findNow, Instr.sameNow]
    have hstep : (Instr.findKey 115 (kvP k) (e :: r)).run Try.prog w = (Instr.findAsking 115 (kvP k) (e :: r) 0).run Try.prog w := by
      simp [Instr.findKey, run_underlying hu, hn]
    rcases key with ⟨h1, h2⟩ | ⟨h1, j, h2, h3, h4⟩
    · exact .inl ⟨h1, hstep.trans h2⟩
    · exact .inr ⟨h1, j, h2, h3, by rw [hstep, h4]; simp⟩
def numV (D : Pk → Nat) (k : Pk) : Value := .int .i64 (D k : Int)
/-- Numbers by places. -/
def DMap (w : World) (m : Nat) (D : Pk → Nat) (ks : List Pk) : Prop := MpAt w m kvP (numV D) ks
theorem DMap.look {w : World} {m : Nat} {D : Pk → Nat} {ks : List Pk} (h : DMap w m D ks) {k : Pk} (h3 : k.1 < 3) (ha : PlainAt w k.2.1) (hp : OkK w ks) (hk : k ∈ ks) :
    (Instr.lookup 106 (.map (some m)) (kvP k) true).run Try.prog w = .ok (.tuple #[.int .i64 (D k : Int), .bool true]) w ∧ (Instr.lookup 106 (.map (some m)) (kvP k) false).run Try.prog w = .ok (.int .i64 (D k : Int)) w := by
  obtain ⟨es, c, hm, hi⟩ := h
  exact look_mp (V := numV D) Try.underlying106 (fun b => check_place b w h3) hm (findsV_place h3 ha hi hp) hk
theorem DMap.put {w : World} {m : Nat} {D : Pk → Nat} {ks : List Pk} (h : DMap w m D ks) {k : Pk} (h3 : k.1 < 3) (ha : PlainAt w k.2.1) (hp : OkK w ks) :
    ∃ w', (Instr.mapUpdate 106 (.map (some m)) (kvP k) (.int .i64 (D k : Int))).run Try.prog w = .ok () w' ∧ DMap w' m D (addK ks k) ∧ Oth m w w' := by
  obtain ⟨es, c, hm, hi⟩ := h
  obtain ⟨es', c', hu, hi'⟩ := put_mp (V := numV D) Try.underlying106 (fun b => check_place b w h3) (stays_place w k) hm hi (findsV_place h3 ha hi hp)
  exact ⟨_, hu, ⟨es', c', heap_setBlock_same hm _, hi'⟩, oth_of (Below.refl _ w) hm rfl⟩
end Go.Proofs.Ytgeckgdmkjddpaa.Hd
namespace Go.Proofs.Ytgeckgdmkjddpaa.Hd
open Go.ChangeShapes Go.WideShapes Go.ChangeAt Go.RowKit Go.Shelf Go.Proofs.Ytgeckgdmkjddpaa.It Go.Proofs.Ytgeckgdmkjddpaa.Vo Go.Proofs.Ytgeckgdmkjddpaa.Br
set_option linter.unusedVariables false

def plF (i : Nat) : Nat := if i = 0 then 106 else if i = 1 then 111 else 118
def wiF (i : Nat) : Nat := if i = 0 then 107 else if i = 1 then 112 else 119
def wi1 (i : Nat) : Nat := if i = 0 then 108 else if i = 1 then 113 else 120
def byF (i : Nat) : Nat := if i = 0 then 105 else if i = 1 then 110 else 117
theorem three {i : Nat} (hi : i < 3) : i = 0 ∨ i = 1 ∨ i = 2 := by omega
theorem meth_pl {i : Nat} (hi : i < 3) (v : Value) (w : World) : (method 307 (tyOf i) v "loop.example/g00471/impl.place").run Try.prog w = .ok (plF i, v) w := by
  rcases three hi with rfl | rfl | rfl <;> kernel_rfl
theorem meth_wi {i : Nat} (hi : i < 3) (v : Value) (w : World) : (method 307 (tyOf i) v "loop.example/g00471/impl.within").run Try.prog w = .ok (wiF i, v) w := by
  rcases three hi with rfl | rfl | rfl <;> kernel_rfl
theorem meth_by {i : Nat} (hi : i < 3) (v : Value) (w : World) : (method 307 (tyOf i) v "loop.example/g00471/impl.bytes").run Try.prog w = .ok (byF i, v) w := by
  rcases three hi with rfl | rfl | rfl <;> kernel_rfl
theorem ent_pl {i : Nat} (hi : i < 3) : ∀ (args : Array Value) (w : World), (callFunc (plF i) args).run Try.prog w = .ok (.enter (plF i) args) w := by
  rcases three hi with rfl | rfl | rfl
  · exact enters_of Try.func106 (by kernel_rfl) rfl
  · exact enters_of Try.func111 (by kernel_rfl) rfl
  · exact enters_of Try.func118 (by kernel_rfl) rfl
theorem ent_wi {i : Nat} (hi : i < 3) : ∀ (args : Array Value) (w : World), (callFunc (wiF i) args).run Try.prog w = .ok (.enter (wiF i) args) w := by
  rcases three hi with rfl | rfl | rfl
  · exact enters_of Try.func107 (by kernel_rfl) rfl
  · exact enters_of Try.func112 (by kernel_rfl) rfl
  · exact enters_of Try.func119 (by kernel_rfl) rfl
theorem ent_w1 {i : Nat} (hi : i < 3) : ∀ (args : Array Value) (w : World), (callFunc (wi1 i) args).run Try.prog w = .ok (.enter (wi1 i) args) w := by
  rcases three hi with rfl | rfl | rfl
  · exact enters_of Try.func108 (by kernel_rfl) rfl
  · exact enters_of Try.func113 (by kernel_rfl) rfl
  · exact enters_of Try.func120 (by kernel_rfl) rfl
theorem ent_by {i : Nat} (hi : i < 3) : ∀ (args : Array Value) (w : World), (callFunc (byF i) args).run Try.prog w = .ok (.enter (byF i) args) w := by
  rcases three hi with rfl | rfl | rfl
  · exact enters_of Try.func105 (by kernel_rfl) rfl
  · exact enters_of Try.func110 (by kernel_rfl) rfl
  · exact enters_of Try.func117 (by kernel_rfl) rfl
theorem place_I {i : Nat} (hi : i < 3) (b off n c : Nat) (hn : n ≠ 0) (hm : n ≤ maxLen) (hc : n ≤ c) (w : World) :
    Calls Try.prog (plF i) #[.slice (some ⟨b, off, none⟩) n c] w fun e w' => e = .returned (.agg #[.iface (ptrT i) (.pointer (some ⟨b, off, none⟩)), .int .i64 (n : Int)]) ∧ Below w.heap.size w w' := by
  rcases three hi with rfl | rfl | rfl
  · exact place_0 b off n c hn hm hc w
  · exact place_1 b off n c hn hm hc w
  · exact place_2 b off n c hn hm hc w
theorem withinF_I {i : Nat} (hi : i < 3) (o : Option Addr) (n c : Nat) (w : World) :
    Calls Try.prog (wiF i) #[.slice o n c] w fun e w' => e = .returned (.func (.func (wi1 i)) #[] #[.pointer (some ⟨w.heap.size, 0, none⟩)]) ∧ w' = w.alloc (.cells #[.slice o n c] (tyOf i)) := by
  rcases three hi with rfl | rfl | rfl
  · exact withinF_0 o n c w
  · exact withinF_1 o n c w
  · exact withinF_2 o n c w
theorem within_I {i : Nat} (hi : i < 3) (K : Nat → Prop) (w0 w : World) (h Bs : Nat) (o : Option Addr) (n c : Nat) (xs : List Tr) (hb0 : w0.heap.size ≤ w.heap.size) (hb1 : ∀ b, K b → w.heap[b]? = w0.heap[b]?) (hK : ∀ k, K k → k < w0.heap.size) (hr : Rd K w0 h ⟨i, o, n, c⟩ xs) (hm : n ≤ maxLen) (hBl : w0.heap.size ≤ Bs ∧ Bs < w.heap.size) (hBs : w.cell? ⟨Bs, 0, none⟩ = some (.slice o n c)) :
    SeqOf Try.prog (wi1 i) #[.pointer (some ⟨Bs, 0, none⟩)] (fun x => #[valL x]) (fun k => K k ∨ k = Bs) (fun pre y => pre ++ [y] <+: kids w0 ⟨i, o, n, c⟩) (fun ys => ys = kids w0 ⟨i, o, n, c⟩) w := by
  rcases three hi with rfl | rfl | rfl
  · exact within_0 K w0 w h Bs o n c xs hb0 hb1 hK hr hm hBl hBs
  · exact within_1 K w0 w h Bs o n c xs hb0 hb1 hK hr hm hBl hBs
  · exact within_2 K w0 w h Bs o n c xs hb0 hb1 hK hr hm hBl hBs
end Go.Proofs.Ytgeckgdmkjddpaa.Hd
