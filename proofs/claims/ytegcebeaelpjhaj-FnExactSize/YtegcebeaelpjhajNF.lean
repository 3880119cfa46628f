/- Places of expressions and definitions: what stands below each, and how many there are. -/
import Derived.Test.YtegcebeaelpjhajND
import Derived.Test.YtegcebeaelpjhajMH
import Derived.Test.YtegcebeaelpjhajYA
namespace Go.Proofs.Ytegcebeaelpjhaj
open Go.RowKit

def cellsAt (W : World) (a : Addr) (cs : List Value) : Prop := ∀ j v, cs[j]? = some v → W.cell? ⟨a.block, a.off + j, none⟩ = some v
def AtE (W : World) (K : Nat → Prop) (h : Nat) (a : Addr) (t : Tr) : Prop := a.spot = none ∧ K a.block ∧ ∃ cs, cs.length = 6 ∧ cellsAt W a cs ∧ (reads K W h).ex t cs
def AtD (W : World) (K : Nat → Prop) (h : Nat) (a : Addr) (t : Tr) : Prop := a.spot = none ∧ K a.block ∧ ∃ cs, cs.length = 9 ∧ cellsAt W a cs ∧ (reads K W h).de t cs
def sliceOf (v : Option Value) : Option Addr × Nat := match v with | some (.slice o n _) => (o, n) | _ => (none, 0)
def kidA (W : World) (a : Addr) (j sz d : Nat) : List Addr := rowA (sliceOf (W.cell? ⟨a.block, a.off + j, none⟩)).1 sz d (sliceOf (W.cell? ⟨a.block, a.off + j, none⟩)).2
def kEE (W : World) (a : Addr) : List Addr := kidA W a 3 6 0 ++ kidA W a 5 8 2
def kED (W : World) (a : Addr) : List Addr := kidA W a 4 9 0
def kDE (a : Addr) : List Addr := [⟨a.block, a.off + 2, none⟩]
def kDD (W : World) (a : Addr) : List Addr := kidA W a 8 9 0
section
variable {W : World} {K : Nat → Prop}
theorem cells_fun2 {x : Addr} {cs ds : List Value} (h1 : cellsAt W x cs) (h2 : cellsAt W x ds) (hl : cs.length = ds.length) : cs = ds := by
  apply List.ext_getElem hl
  intro j ja jb
  have a1 := h1 j cs[j] (List.getElem?_eq_getElem ja)
  have a2 := h2 j ds[j] (List.getElem?_eq_getElem jb)
  rw [a1] at a2
  exact Option.some.inj a2
theorem kid_eq {a : Addr} {j sz d n c : Nat} {o : Option Addr} (h : W.cell? ⟨a.block, a.off + j, none⟩ = some (.slice o n c)) : kidA W a j sz d = rowA o sz d n := by
  unfold kidA
  rw [h]
  rfl
/-- What an expression's place holds. -/
structure OpenE (W : World) (K : Nat → Prop) (h : Nat) (a : Addr) (t : Tr) (o1 o2 o3 : Option Addr) (c1 c2 c3 : Nat) : Prop where
  l : W.cell? ⟨a.block, a.off + 3, none⟩ = some (.slice o1 t.l.length c1)
  d : W.cell? ⟨a.block, a.off + 4, none⟩ = some (.slice o2 t.ds.length c2)
  al : W.cell? ⟨a.block, a.off + 5, none⟩ = some (.slice o3 t.al.length c3)
  ll : t.l.length ≤ maxLen
  dl : t.ds.length ≤ maxLen
  all : t.al.length ≤ maxLen
  rl : RowOf K W (reads K W h).ex 6 o1 t.l
  rd : RowOf K W (reads K W h).de 9 o2 t.ds
  ra : RowOf K W (reads K W h).al 8 o3 t.al
theorem AtE.open {h : Nat} {a : Addr} {t : Tr} (hA : AtE W K h a t) : ∃ h' o1 c1 o2 c2 o3 c3, h = h' + 1 ∧ OpenE W K h' a t o1 o2 o3 c1 c2 c3 := by
  obtain ⟨-, -, cs, -, hc, hr⟩ := hA
  cases h with
  | zero => exact hr.elim
  | succ h =>
    obtain ⟨-, o1, c1, o2, c2, o3, c3, rfl, -, f1, f2, f3, r1, r2, r3⟩ := hr
    exact ⟨h, o1, c1, o2, c2, o3, c3, rfl, ⟨hc 3 _ rfl, hc 4 _ rfl, hc 5 _ rfl, f1.1, f2.1, f3.1, r1, r2, r3⟩⟩
/-- What a definition's place holds. -/
structure OpenD (W : World) (K : Nat → Prop) (h : Nat) (a : Addr) (t : Tr) (e : Tr) (o2 : Option Addr) (c2 : Nat) : Prop where
  body : t.l = [e]
  e : AtE W K h ⟨a.block, a.off + 2, none⟩ e
  d : W.cell? ⟨a.block, a.off + 8, none⟩ = some (.slice o2 t.ds.length c2)
  dl : t.ds.length ≤ maxLen
  rd : RowOf K W (reads K W h).de 9 o2 t.ds
theorem AtD.open {h : Nat} {a : Addr} {t : Tr} (hA : AtD W K h a t) : ∃ h' e o2 c2, h = h' + 1 ∧ OpenD W K h' a t e o2 c2 := by
  obtain ⟨-, hk, cs, -, hc, hr⟩ := hA
  cases h with
  | zero => exact hr.elim
  | succ h =>
    obtain ⟨-, -, -, e, o1, c1, ce, o2, c2, he, rfl, -, -, f2, -, hl, re, rd⟩ := hr
    refine ⟨h, e, o2, c2, rfl, ⟨he, ⟨rfl, hk, ce, hl, fun j v hv => ?_, re⟩, ?_, f2.1, rd⟩⟩
    · have hj : j < ce.length := (List.getElem?_eq_some_iff.1 hv).1
      have h1 := hc (2 + j) v (by
        rw [List.append_assoc, List.getElem?_append_right (by simp)]
        simp only [List.length_cons, List.length_nil]
        rw [show 2 + j - (0 + 1 + 1) = j from by omega, List.getElem?_append_left hj]
        exact hv)
      rw [← Nat.add_assoc] at h1
      exact h1
    · refine hc 8 _ ?_
      rw [List.getElem?_append_right (by simp [hl])]
      simp [hl]
theorem row_ex {h sz d : Nat} {o : Option Addr} {xs : List Tr} (hr : RowOf K W (reads K W h).ex 6 o xs) (hs : sz = 6) (hd : d = 0) {i : Nat} {x : Tr} (hx : xs[i]? = some x) : AtE W K h ⟨bOf o, fOf o + i * sz + d, none⟩ x := by
  subst hs hd
  obtain ⟨b, off, rfl, hk, -, hc⟩ := hr (fun e => by rw [e] at hx; simp at hx)
  obtain ⟨cs, h1, h2, h3⟩ := hc i x hx
  exact ⟨rfl, hk, cs, h1, h2, h3⟩
theorem row_de {h : Nat} {o : Option Addr} {xs : List Tr} (hr : RowOf K W (reads K W h).de 9 o xs) {i : Nat} {x : Tr} (hx : xs[i]? = some x) : AtD W K h ⟨bOf o, fOf o + i * 9 + 0, none⟩ x := by
  obtain ⟨b, off, rfl, hk, -, hc⟩ := hr (fun e => by rw [e] at hx; simp at hx)
  obtain ⟨cs, h1, h2, h3⟩ := hc i x hx
  exact ⟨rfl, hk, cs, h1, h2, h3⟩
theorem row_al {h : Nat} {o : Option Addr} {xs : List Tr} (hr : RowOf K W (reads K W h).al 8 o xs) {i : Nat} {x : Tr} (hx : xs[i]? = some x) : ∃ h' e, h = h' + 1 ∧ x.l = [e] ∧ AtE W K h' ⟨bOf o, fOf o + i * 8 + 2, none⟩ e := by
  obtain ⟨b, off, rfl, hk, -, hc⟩ := hr (fun e => by rw [e] at hx; simp at hx)
  obtain ⟨cs, h1, h2, h3⟩ := hc i x hx
  cases h with
  | zero => exact h3.elim
  | succ h =>
    obtain ⟨-, -, -, -, e, o1, c1, ce, he, rfl, -, -, -, hl, re⟩ := h3
    refine ⟨h, e, rfl, he, rfl, hk, ce, hl, fun j v hv => ?_, re⟩
    have h4 := h2 (2 + j) v (by
      rw [List.getElem?_append_right (by simp)]
      simp only [List.length_cons, List.length_nil]
      rw [show 2 + j - (0 + 1 + 1) = j from by omega]
      exact hv)
    rw [← Nat.add_assoc] at h4
    exact h4

theorem cnt_stable (k : Nat) : ∀ h, (∀ t cs, (reads K W h).ex t cs → (cnt (h + k)).ex t = (cnt h).ex t) ∧ (∀ t cs, (reads K W h).de t cs → (cnt (h + k)).de t = (cnt h).de t) ∧ (∀ t cs, (reads K W h).al t cs → (cnt (h + k)).al t = (cnt h).al t) := by
  have row : ∀ {R : Tr → List Value → Prop} {sz : Nat} {o : Option Addr} {xs : List Tr} {f g : Tr → Nat}, RowOf K W R sz o xs → (∀ x cs, R x cs → f x = g x) → sumZ f xs = sumZ g xs := by
    intro R sz o xs f g hm hf
    unfold sumZ
    congr 1
    apply List.map_congr_left
    intro x hx
    obtain ⟨i, hi⟩ := List.mem_iff_getElem?.1 hx
    obtain ⟨_, _, _, _, _, hc⟩ := hm (fun e => by rw [e] at hx; cases hx)
    obtain ⟨cs, _, _, hr⟩ := hc i x hi
    exact hf x cs hr
  intro h
  induction h with
  | zero => exact ⟨fun _ _ h => h.elim, fun _ _ h => h.elim, fun _ _ h => h.elim⟩
  | succ h ih =>
    obtain ⟨i1, i2, i3⟩ := ih
    rw [show h + 1 + k = (h + k) + 1 from by omega]
    refine ⟨fun t cs a => ?_, fun t cs a => ?_, fun t cs a => ?_⟩
    · obtain ⟨-, o1, c1, o2, c2, o3, c3, -, -, -, -, -, r1, r2, r3⟩ := a
      show 1 + sumZ (cnt (h + k)).ex t.l + sumZ (cnt (h + k)).al t.al + sumZ (cnt (h + k)).de t.ds = 1 + sumZ (cnt h).ex t.l + sumZ (cnt h).al t.al + sumZ (cnt h).de t.ds
      rw [row r1 i1, row r2 i2, row r3 i3]
    · obtain ⟨-, -, -, e, o1, c1, ce, o2, c2, te, -, -, -, -, -, -, re, r2⟩ := a
      show sumZ (cnt (h + k)).ex t.l + sumZ (cnt (h + k)).de t.ds = sumZ (cnt h).ex t.l + sumZ (cnt h).de t.ds
      rw [row r2 i2, te]
      simp only [sumZ, List.map_cons, List.map_nil, i1 e ce re]
    · obtain ⟨-, -, -, -, e, o1, c1, ce, te, -, -, -, -, -, re⟩ := a
      show sumZ (cnt (h + k)).ex t.l = sumZ (cnt h).ex t.l
      rw [te]
      simp only [sumZ, List.map_cons, List.map_nil, i1 e ce re]
theorem AtE.fun {h h' : Nat} {a : Addr} {t u : Tr} (x : AtE W K h a t) (y : AtE W K h' a u) : t = u ∧ (cnt h).ex t = (cnt h').ex u := by
  obtain ⟨-, -, cs, l1, c1, r1⟩ := x
  obtain ⟨-, -, ds, l2, c2, r2⟩ := y
  have e := cells_fun2 c1 c2 (l1.trans l2.symm)
  subst e
  have e2 := (reads_fun h h').1 _ _ _ r1 r2
  subst e2
  refine ⟨rfl, ?_⟩
  rcases Nat.le_total h h' with hl | hl
  · rw [← Nat.add_sub_cancel' hl]; exact ((cnt_stable _ h).1 t cs r1).symm
  · rw [← Nat.add_sub_cancel' hl]; exact (cnt_stable _ h').1 t cs r2
theorem AtD.fun {h h' : Nat} {a : Addr} {t u : Tr} (x : AtD W K h a t) (y : AtD W K h' a u) : t = u ∧ (cnt h).de t = (cnt h').de u := by
  obtain ⟨-, -, cs, l1, c1, r1⟩ := x
  obtain ⟨-, -, ds, l2, c2, r2⟩ := y
  have e := cells_fun2 c1 c2 (l1.trans l2.symm)
  subst e
  have e2 := (reads_fun h h').2.1 _ _ _ r1 r2
  subst e2
  refine ⟨rfl, ?_⟩
  rcases Nat.le_total h h' with hl | hl
  · rw [← Nat.add_sub_cancel' hl]; exact ((cnt_stable _ h).2.1 t cs r1).symm
  · rw [← Nat.add_sub_cancel' hl]; exact (cnt_stable _ h').2.1 t cs r2
end
/-- How many expressions stand in the tree at a place. -/
structure Cnts (W : World) (K : Nat → Prop) (cE cD : Addr → Nat) : Prop where
  e : ∀ {h : Nat} {a : Addr} {t : Tr}, AtE W K h a t → cE a = (cnt h).ex t
  d : ∀ {h : Nat} {a : Addr} {t : Tr}, AtD W K h a t → cD a = (cnt h).de t
theorem cnts_ex (W : World) (K : Nat → Prop) : ∃ cE cD, Cnts W K cE cD := by
  have h1 : ∀ a, ∃ n, ∀ h t, AtE W K h a t → n = (cnt h).ex t := by
    intro a
    by_cases he : ∃ h t, AtE W K h a t
    · obtain ⟨h, t, hA⟩ := he
      exact ⟨(cnt h).ex t, fun h' t' hB => (hA.fun hB).2⟩
    · exact ⟨0, fun h t hA => absurd ⟨h, t, hA⟩ he⟩
  have h2 : ∀ a, ∃ n, ∀ h t, AtD W K h a t → n = (cnt h).de t := by
    intro a
    by_cases he : ∃ h t, AtD W K h a t
    · obtain ⟨h, t, hA⟩ := he
      exact ⟨(cnt h).de t, fun h' t' hB => (hA.fun hB).2⟩
    · exact ⟨0, fun h t hA => absurd ⟨h, t, hA⟩ he⟩
  obtain ⟨f, hf⟩ := Classical.axiomOfChoice h1
  obtain ⟨g, hg⟩ := Classical.axiomOfChoice h2
  exact ⟨f, g, fun {h a t} hA => hf a h t hA, fun {h a t} hA => hg a h t hA⟩
section
variable {W : World} {K : Nat → Prop}
theorem rowA_sum {o : Option Addr} {sz d : Nat} {xs : List Tr} {f : Addr → Nat} {g : Tr → Nat} (hf : ∀ i x, xs[i]? = some x → f ⟨bOf o, fOf o + i * sz + d, none⟩ = g x) : ((rowA o sz d xs.length).map f).sum = sumZ g xs := by
  unfold sumZ
  congr 1
  apply List.ext_getElem (by simp [rowA])
  intro i h1 h2
  have h3 : i < xs.length := by simpa using h2
  simp only [rowA, List.getElem_map, List.getElem_range]
  exact hf i _ (List.getElem?_eq_getElem h3)
theorem mem_rowA {o : Option Addr} {sz d n : Nat} {x : Addr} (h : x ∈ rowA o sz d n) : ∃ i, i < n ∧ x = ⟨bOf o, fOf o + i * sz + d, none⟩ := by
  obtain ⟨i, hi, rfl⟩ := List.mem_map.1 h
  exact ⟨i, List.mem_range.1 hi, rfl⟩
/-- What stands below an expression. -/
theorem atE_kids {h : Nat} {a : Addr} {t : Tr} (hA : AtE W K h a t) : (∀ x ∈ kEE W a, ∃ h t, AtE W K h x t) ∧ (∀ x ∈ kED W a, ∃ h t, AtD W K h x t) := by
  obtain ⟨h', o1, c1, o2, c2, o3, c3, rfl, O⟩ := hA.open
  have e1 : kEE W a = rowA o1 6 0 t.l.length ++ rowA o3 8 2 t.al.length := by unfold kEE; rw [kid_eq O.l, kid_eq O.al]
  have e2 : kED W a = rowA o2 9 0 t.ds.length := kid_eq O.d
  refine ⟨fun x hx => ?_, fun x hx => ?_⟩
  · rw [e1] at hx
    rcases List.mem_append.1 hx with hx | hx
    · obtain ⟨i, hi, rfl⟩ := mem_rowA hx
      exact ⟨h', _, row_ex O.rl rfl rfl (List.getElem?_eq_getElem hi)⟩
    · obtain ⟨i, hi, rfl⟩ := mem_rowA hx
      obtain ⟨h2, e, -, -, hE⟩ := row_al O.ra (List.getElem?_eq_getElem hi)
      exact ⟨h2, e, hE⟩
  · rw [e2] at hx
    obtain ⟨i, hi, rfl⟩ := mem_rowA hx
    exact ⟨h', _, row_de O.rd (List.getElem?_eq_getElem hi)⟩
theorem atD_kids {h : Nat} {a : Addr} {t : Tr} (hA : AtD W K h a t) : (∀ x ∈ kDE a, ∃ h t, AtE W K h x t) ∧ (∀ x ∈ kDD W a, ∃ h t, AtD W K h x t) := by
  obtain ⟨h', e, o2, c2, rfl, O⟩ := hA.open
  have e2 : kDD W a = rowA o2 9 0 t.ds.length := kid_eq O.d
  refine ⟨fun x hx => ?_, fun x hx => ?_⟩
  · rw [kDE, List.mem_singleton] at hx
    subst hx
    exact ⟨h', e, O.e⟩
  · rw [e2] at hx
    obtain ⟨i, hi, rfl⟩ := mem_rowA hx
    exact ⟨h', _, row_de O.rd (List.getElem?_eq_getElem hi)⟩
variable {cE cD : Addr → Nat}
theorem cE_kids (hc : Cnts W K cE cD) {h : Nat} {a : Addr} {t : Tr} (hA : AtE W K h a t) : cE a = 1 + ((kEE W a).map cE).sum + ((kED W a).map cD).sum := by
  rw [hc.e hA]
  obtain ⟨h', o1, c1, o2, c2, o3, c3, rfl, O⟩ := hA.open
  have e1 : kEE W a = rowA o1 6 0 t.l.length ++ rowA o3 8 2 t.al.length := by unfold kEE; rw [kid_eq O.l, kid_eq O.al]
  have e2 : kED W a = rowA o2 9 0 t.ds.length := kid_eq O.d
  have s1 := rowA_sum (o := o1) (sz := 6) (d := 0) (f := cE) (g := (cnt h').ex) (xs := t.l) fun i x hx => hc.e (row_ex O.rl rfl rfl hx)
  have s2 := rowA_sum (o := o2) (sz := 9) (d := 0) (f := cD) (g := (cnt h').de) (xs := t.ds) fun i x hx => hc.d (row_de O.rd hx)
  have s3 := rowA_sum (o := o3) (sz := 8) (d := 2) (f := cE) (g := (cnt h').al) (xs := t.al) fun i x hx => by
    obtain ⟨h2, e, rfl, he, hE⟩ := row_al O.ra hx
    rw [hc.e hE]
    show (cnt h2).ex e = sumZ (cnt h2).ex x.l
    rw [he]
    simp [sumZ]
  rw [e1, e2, List.map_append, List.sum_append, s1, s2, s3]
  show 1 + sumZ (cnt h').ex t.l + sumZ (cnt h').al t.al + sumZ (cnt h').de t.ds = _
  omega
theorem cD_kids (hc : Cnts W K cE cD) {h : Nat} {a : Addr} {t : Tr} (hA : AtD W K h a t) : cD a = ((kDE a).map cE).sum + ((kDD W a).map cD).sum := by
  rw [hc.d hA]
  obtain ⟨h', e, o2, c2, rfl, O⟩ := hA.open
  have e2 : kDD W a = rowA o2 9 0 t.ds.length := kid_eq O.d
  have s2 := rowA_sum (o := o2) (sz := 9) (d := 0) (f := cD) (g := (cnt h').de) (xs := t.ds) fun i x hx => hc.d (row_de O.rd hx)
  rw [e2, s2]
  show sumZ (cnt h').ex t.l + sumZ (cnt h').de t.ds = _
  rw [O.body]
  simp [sumZ, kDE, hc.e O.e]
theorem cE_pos (hc : Cnts W K cE cD) {h : Nat} {a : Addr} {t : Tr} (hA : AtE W K h a t) : 1 ≤ cE a := by
  rw [cE_kids hc hA]
  omega
theorem cD_pos (hc : Cnts W K cE cD) {h : Nat} {a : Addr} {t : Tr} (hA : AtD W K h a t) : 1 ≤ cD a := by
  rw [cD_kids hc hA]
  obtain ⟨h', e, o2, c2, rfl, O⟩ := hA.open
  have h1 := cE_pos hc O.e
  simp only [kDE, List.map_cons, List.map_nil, List.sum_cons, List.sum_nil]
  omega
end
end Go.Proofs.Ytegcebeaelpjhaj
