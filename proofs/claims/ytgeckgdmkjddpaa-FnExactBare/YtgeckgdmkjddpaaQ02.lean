/- Made of XD, LI. -/
import Derived.Test.YtgeckgdmkjddpaaQ01
import Derived.Laws.MakeOwn
import Derived.Test.YtgeckgdmkjddpaaQ00
namespace Go.Proofs.Ytgeckgdmkjddpaa
open Go.ChangeShapes Go.WideShapes Go.ChangeAt Go.RowKit

/-- All blocks; those from one on; those behind one. -/
abbrev AllK : Nat → Prop := fun _ => True
def FromK (n : Nat) : Nat → Prop := fun b => n ≤ b
def putAt : Array Value → Nat → List Value → Array Value
  | cur, _, [] => cur
  | cur, p, v :: r => putAt (cur.set! p v) (p + 1) r
theorem putAt_size (cs : List Value) : ∀ (cur : Array Value) (p : Nat), (putAt cur p cs).size = cur.size := by
  induction cs with
  | nil => intro _ _; rfl
  | cons v r ih => intro cur p; show (putAt (cur.set! p v) (p + 1) r).size = _; rw [ih]; simp
theorem putAt_out (cs : List Value) : ∀ (cur : Array Value) (p q : Nat), (q < p ∨ p + cs.length ≤ q) → (putAt cur p cs)[q]? = cur[q]? := by
  induction cs with
  | nil => intro _ _ _ _; rfl
  | cons v r ih =>
    intro cur p q h
    show (putAt (cur.set! p v) (p + 1) r)[q]? = _
    rw [List.length_cons] at h
    rw [ih _ _ _ (by omega), Array.set!_eq_setIfInBounds, Array.getElem?_setIfInBounds_ne (by omega)]
theorem putAt_in (cs : List Value) : ∀ (cur : Array Value) (p j : Nat) (u : Value), p + cs.length ≤ cur.size → cs[j]? = some u → (putAt cur p cs)[p + j]? = some u := by
  induction cs with
  | nil => intro _ _ _ _ _ h; simp at h
  | cons v r ih =>
    intro cur p j u hs h
    show (putAt (cur.set! p v) (p + 1) r)[p + j]? = _
    rw [List.length_cons] at hs
    cases j with
    | zero =>
      have : v = u := by simpa using h
      subst this
      rw [putAt_out _ _ _ _ (by omega), Array.set!_eq_setIfInBounds, Nat.add_zero, Array.getElem?_setIfInBounds_self_of_lt (by omega)]
    | succ j =>
      rw [show p + (j + 1) = (p + 1) + j by omega]
      exact ih _ _ _ _ (by simp; omega) (by simpa using h)

/-- The elements that a row's cells hold so far. -/
def Filled {α : Type} (R : α → List Value → Prop) (size : Nat) (cur : Array Value) (xs : List α) : Prop :=
  ∀ k x, xs[k]? = some x → ∃ cs, cs.length = size ∧ (∀ j u, cs[j]? = some u → cur[k * size + j]? = some u) ∧ R x cs
theorem Filled.nil {α : Type} (R : α → List Value → Prop) (size : Nat) (cur : Array Value) : Filled R size cur ([] : List α) := fun k x h => by simp at h
theorem Filled.snoc {α : Type} {R R' : α → List Value → Prop} {size : Nat} {cur : Array Value} {xs : List α} {i : Nat} {x : α} {cs : List Value} (h : Filled R size cur (xs.take i)) (hR : ∀ x cs, R x cs → R' x cs) (hx : xs[i]? = some x) (hl : cs.length = size) (hs : cur.size = xs.length * size) (hr : R' x cs) : Filled R' size (putAt cur (i * size) cs) (xs.take (i + 1)) := by
  have hi : i < xs.length := (List.getElem?_eq_some_iff.1 hx).1
  have hmul : (i + 1) * size ≤ xs.length * size := Nat.mul_le_mul_right _ hi
  have hone : (i + 1) * size = i * size + size := by rw [Nat.add_mul, Nat.one_mul]
  intro k y hy
  by_cases hk : k < i
  · rw [List.getElem?_take, if_pos (by omega)] at hy
    obtain ⟨cs', h1, h2, h3⟩ := h k y (by rw [List.getElem?_take, if_pos hk]; exact hy)
    refine ⟨cs', h1, fun j u hu => ?_, hR _ _ h3⟩
    have hj : j < size := by rw [← h1]; exact (List.getElem?_eq_some_iff.1 hu).1
    have hk2 : (k + 1) * size ≤ i * size := Nat.mul_le_mul_right _ hk
    have hk3 : (k + 1) * size = k * size + size := by rw [Nat.add_mul, Nat.one_mul]
    rw [putAt_out _ _ _ _ (by omega)]
    exact h2 j u hu
  · have hk2 : k = i := by
      have := (List.getElem?_eq_some_iff.1 hy).1
      rw [List.length_take] at this
      omega
    subst hk2
    have hxy : x = y := by
      rw [List.getElem?_take, if_pos (by omega), hx] at hy
      simpa using hy
    subst hxy
    exact ⟨cs, hl, fun j u hu => putAt_in _ _ _ _ _ (by omega) hu, hr⟩
theorem Filled.row {α : Type} {K : Nat → Prop} {w : World} {R : α → List Value → Prop} {size : Nat} {cur : Array Value} {e : TypeId} {b : Nat} {xs : List α} (h : Filled R size cur xs) (hg : w.heap[b]? = some (.cells cur e (0, 0))) (hK : K b) : RowOf K w R size (some ⟨b, 0, none⟩) xs := by
  intro _
  refine ⟨b, 0, rfl, hK, heap_lt hg, fun i x hx => ?_⟩
  obtain ⟨cs, h1, h2, h3⟩ := h i x hx
  refine ⟨cs, h1, fun j u hu => ?_, h3⟩
  rw [Nat.zero_add, cell_of hg]
  exact h2 j u hu
/-- What is new are plain rows, none of them frozen. -/
def Plain (w w' : World) : Prop := ∀ b, w.heap.size ≤ b → b < w'.heap.size → ∃ c e, w'.heap[b]? = some (.cells c e (0, 0))
theorem Plain.refl (w : World) : Plain w w := fun b h1 h2 => by omega
theorem Plain.on {w w1 w2 : World} (h : Plain w w1) (k : Plain w1 w2) (hb : Below w1.heap.size w1 w2) : Plain w w2 := by
  intro b h1 h2
  by_cases hl : b < w1.heap.size
  · obtain ⟨c, e, hc⟩ := h b h1 hl
    exact ⟨c, e, (hb.block b hl).trans hc⟩
  · exact k b (by omega) h2
theorem Plain.alloc {w w1 : World} (h : Plain w w1) (c : Array Value) (e : TypeId) : Plain w (w1.alloc (.cells c e)) := by
  intro b h1 h2
  by_cases hl : b < w1.heap.size
  · obtain ⟨c', e', hc⟩ := h b h1 hl
    exact ⟨c', e', (Below.heap_alloc _ _ _ hl).trans hc⟩
  · have hb : b = w1.heap.size := by simp at h2; omega
    subst hb
    exact ⟨c, e, heap_alloc_new w1 _⟩
theorem Plain.set {w w1 : World} (h : Plain w w1) (g j : Nat) (v : Value) : Plain w (w1.setCell ⟨g, j, none⟩ v) := by
  intro b h1 h2
  have h3 : b < w1.heap.size := by simpa using h2
  obtain ⟨c, e, hc⟩ := h b h1 h3
  by_cases hg : b = g
  · subst hg
    exact ⟨_, _, heap_set_same v hc⟩
  · exact ⟨c, e, (heap_set_other v hg).trans hc⟩
theorem Stays.refl (K : Nat → Prop) (w : World) : Stays K w w := ⟨Nat.le_refl _, fun _ _ _ => rfl⟩
theorem le_sum {α : Type} (f : α → Nat) (xs : List α) (x : α) (h : x ∈ xs) : f x ≤ (xs.map f).sum := by
  induction xs with
  | nil => cases h
  | cons y r ih =>
    rw [List.map_cons, List.sum_cons]
    rcases List.mem_cons.1 h with rfl | h
    · omega
    · have := ih h
      omega

theorem ex_form {K : Nat → Prop} {w : World} {h : Nat} {x : Tr} {cs : List Value} (hr : (reads K w h).ex x cs) : ∃ o1 c1 o2 c2 o3 c3, cs = [.int .i64 x.k, .string x.s, .int .i64 x.n, .slice o1 x.l.length c1, .slice o2 x.ds.length c2, .slice o3 x.al.length c3] := by
  cases h with
  | zero => exact hr.elim
  | succ h =>
    obtain ⟨-, o1, c1, o2, c2, o3, c3, e, -⟩ := hr
    exact ⟨o1, c1, o2, c2, o3, c3, e⟩
theorem de_form {K : Nat → Prop} {w : World} {h : Nat} {x : Tr} {cs : List Value} (hr : (reads K w h).de x cs) : ∃ (y : Tr) (o : Option Addr) (c : Nat) (o1 : Option Addr) (c1 : Nat) (o2 : Option Addr) (c2 : Nat) (o3 : Option Addr) (c3 : Nat) (o4 : Option Addr) (c4 : Nat), cs = [.string x.s, .slice o x.ss.length c, .int .i64 y.k, .string y.s, .int .i64 y.n, .slice o1 y.l.length c1, .slice o2 y.ds.length c2, .slice o3 y.al.length c3, .slice o4 x.ds.length c4] := by
  cases h with
  | zero => exact hr.elim
  | succ h =>
    obtain ⟨-, -, -, y, o, c, ce, o4, c4, -, e, -, -, -, -, -, q, -⟩ := hr
    obtain ⟨o1, c1, o2, c2, o3, c3, rfl⟩ := ex_form q
    exact ⟨y, o, c, o1, c1, o2, c2, o3, c3, o4, c4, e⟩
theorem al_form {K : Nat → Prop} {w : World} {h : Nat} {x : Tr} {cs : List Value} (hr : (reads K w h).al x cs) : ∃ (y : Tr) (o : Option Addr) (c : Nat) (o1 : Option Addr) (c1 : Nat) (o2 : Option Addr) (c2 : Nat) (o3 : Option Addr) (c3 : Nat), cs = [.string x.s, .slice o x.ss.length c, .int .i64 y.k, .string y.s, .int .i64 y.n, .slice o1 y.l.length c1, .slice o2 y.ds.length c2, .slice o3 y.al.length c3] := by
  cases h with
  | zero => exact hr.elim
  | succ h =>
    obtain ⟨-, -, -, -, y, o, c, ce, -, e, -, -, -, -, q⟩ := hr
    obtain ⟨o1, c1, o2, c2, o3, c3, rfl⟩ := ex_form q
    exact ⟨y, o, c, o1, c1, o2, c2, o3, c3, e⟩

def ToEx (h : Nat) : Prop := ∀ (x : Tr) (cs : List Value) (w : World), (reads AllK w h).ex x cs → (wts h).ex x ≤ 1048576 → Calls Try.prog 7 #[.agg cs.toArray] w fun e w' => ∃ cs', e = .returned (.agg cs'.toArray) ∧ cs'.length = 6 ∧ (reads (FromK w.heap.size) w' h).ex x cs' ∧ Below w.heap.size w w' ∧ Plain w w'
def ToDe (h : Nat) : Prop := ∀ (x : Tr) (cs : List Value) (w : World), (reads AllK w h).de x cs → (wts h).de x ≤ 1048576 → Calls Try.prog 14 #[.agg cs.toArray] w fun e w' => ∃ cs', e = .returned (.agg cs'.toArray) ∧ cs'.length = 9 ∧ (reads (FromK w.heap.size) w' h).de x cs' ∧ Below w.heap.size w w' ∧ Plain w w'
def ToAl (h : Nat) : Prop := ∀ (x : Tr) (cs : List Value) (w : World), (reads AllK w h).al x cs → (wts h).al x ≤ 1048576 → Calls Try.prog 46 #[.agg cs.toArray] w fun e w' => ∃ cs', e = .returned (.agg cs'.toArray) ∧ cs'.length = 8 ∧ (reads (FromK w.heap.size) w' h).al x cs' ∧ Below w.heap.size w w' ∧ Plain w w'

theorem info_string : (Try.prog.info? 9).map (fun i => (i.zero, i.size, i.bytes)) = some (some (.string ⟨#[]⟩), 1, 16) := by kernel_rfl
theorem make_strs (n : Nat) (hn : n ≤ 1048576) (w : World) : (Instr.makeSlice 38 (.int .i64 (n : Int)) (.int .i64 (n : Int))).run Try.prog w = .ok (.slice (some ⟨w.heap.size, 0, none⟩) n n) (w.alloc (.cells (madeCells #[.string ⟨#[]⟩] (n * 1)) 9)) := by
  obtain ⟨i0, hi, hz0, hz1, hz2⟩ := info_parts info_string
  have hr := run_make (P := Try.prog) w 38 9 i0 _ Try.underlying38 hi hz0 .i64 .i64 n n (by omega) (Int.le_refl _) (by rw [hz2]; omega) (by omega)
  rw [hz1, Int.toNat_natCast] at hr
  exact hr

set_option maxHeartbeats 2000000 in
set_option maxRecDepth 100000 in
theorem toStringS_any {K : Nat → Prop} (xs : List ByteArray) (o : Option Addr) (cap : Nat) (w : World) (hl : xs.length ≤ 1048576) (hm : RowOf K w strR 1 o xs) :
    Calls Try.prog 41 #[.slice o xs.length cap] w fun e w' => ∃ o' c', e = .returned (.slice o' xs.length c') ∧ xs.length ≤ c' ∧ RowOf (FromK w.heap.size) w' strR 1 o' xs ∧ Below w.heap.size w w' ∧ Plain w w' := by
  have HM := hide hm
  clear hm
  have hmk := make_strs xs.length hl
  go_enter Try.func41, Try.ntmps41
  go_wp2
  clear hmk
  go_loopw [4] (fun t4 wr => ∃ (i : Nat) (cur : Array Value), i ≤ xs.length ∧ t4 = .int .i64 i ∧ wr.heap[w.heap.size]? = some (.cells cur 9 (0, 0)) ∧ cur.size = xs.length * 1 ∧ Filled strR 1 cur (xs.take i) ∧ Below w.heap.size w wr ∧ Plain w wr) (fun t4 _ => xs.length - (intOf t4).toNat)
  case atStart => exact ⟨0, _, Nat.zero_le _, rfl, heap_alloc_new w _, by rw [size_madeCells, Nat.mul_one], Filled.nil _ _ _, (Below.refl _ w).alloc (Nat.le_refl _) _, (Plain.refl w).alloc _ _⟩
  case round =>
    obtain ⟨i, cur, hi, rfl, hcur, hsz, hfl, hbw, hpl⟩ := hrel
    have HPL := hide hpl
    clear hpl
    have HC := hide hcur
    have HF := hide hfl
    have HBW := hide hbw
    have HSZ := hide hsz
    clear hcur hfl hbw hsz
    by_cases hlt : i < xs.length
    · have hne : xs ≠ [] := by intro e; rw [e] at hlt; simp at hlt
      obtain ⟨x, hx⟩ : ∃ x, xs[i]? = some x := ⟨xs[i], List.getElem?_eq_getElem hlt⟩
      obtain ⟨b, off, eo, -, hbl, hcs⟩ := (HM.out.later HBW.out fun _ _ h => h) hne
      subst eo
      obtain ⟨cs, hlen, hkey, hcx, hxs⟩ := hcs i x hx
      subst hcx
      have q0 := hkey 0 _ rfl
      rw [Nat.mul_one, Nat.add_zero] at q0
      have HX := hide hx
      have HXS := hide hxs
      clear hcs hx hne hkey hlen hxs
      have hlt2 : (i : Int) < xs.length := by omega
      have s0 := cell_of HC.out i
      rw [Array.getElem?_eq_getElem (by rw [HSZ.out]; omega)] at s0
      have f0 := frozen_of HC.out i
      go_wp2
      refine ⟨⟨i + 1, _, by omega, by go_num, heap_set_same _ HC.out, by simpa using HSZ.out, ?_, HBW.out.setCell (Nat.le_refl _) _, HPL.out.set _ _ _⟩, by simp [intOf]; omega⟩
      have key := HF.out.snoc (cs := [.string x]) (fun _ _ h => h) HX.out rfl HSZ.out ⟨rfl, HXS.out⟩
      rw [Nat.mul_one] at key
      exact key
    · go_wp2
      go_ret
      have hie : i = xs.length := by omega
      subst hie
      have key := HF.out
      rw [List.take_length] at key
      exact ⟨_, _, rfl, Nat.le_refl _, key.row HC.out (Nat.le_refl _), HBW.out, HPL.out⟩

theorem info_Exp : (Try.prog.info? 32).map (fun i => (i.zero, i.size, i.bytes)) = some (some (.agg #[.int .i64 0, .string ⟨#[]⟩, .int .i64 0, .slice none 0 0, .slice none 0 0, .slice none 0 0]), 6, 104) := by kernel_rfl
theorem make_Exp (n : Nat) (hn : n ≤ 1048576) (w : World) : (Instr.makeSlice 28 (.int .i64 (n : Int)) (.int .i64 (n : Int))).run Try.prog w = .ok (.slice (some ⟨w.heap.size, 0, none⟩) n n) (w.alloc (.cells (madeCells #[.int .i64 0, .string ⟨#[]⟩, .int .i64 0, .slice none 0 0, .slice none 0 0, .slice none 0 0] (n * 6)) 32)) := by
  obtain ⟨i0, hi, hz0, hz1, hz2⟩ := info_parts info_Exp
  have hr := run_make (P := Try.prog) w 28 32 i0 _ Try.underlying28 hi hz0 .i64 .i64 n n (by omega) (Int.le_refl _) (by rw [hz2]; omega) (by omega)
  rw [hz1, Int.toNat_natCast] at hr
  exact hr

set_option maxHeartbeats 800000 in
set_option maxRecDepth 100000 in
theorem toExpS_of {h : Nat} (hE : ToEx h) (xs : List Tr) (o : Option Addr) (cap : Nat) (w : World) (hl : lw (wts h).ex xs ≤ 1048576) (hm : RowOf AllK w (reads AllK w h).ex 6 o xs) :
    Calls Try.prog 22 #[.slice o xs.length cap] w fun e w' => ∃ o' c', e = .returned (.slice o' xs.length c') ∧ xs.length ≤ c' ∧ RowOf (FromK w.heap.size) w' (reads (FromK w.heap.size) w' h).ex 6 o' xs ∧ Below w.heap.size w w' ∧ Plain w w' := by
  have HM := hide hm
  have HE := hide hE
  have HL := hide hl
  have hl2 : xs.length ≤ 1048576 := by unfold lw at hl; omega
  clear hm hE hl
  have hmk := make_Exp xs.length hl2
  go_enter Try.func22, Try.ntmps22
  go_wp2
  clear hmk
  go_loopw [4] (fun t4 wr => ∃ (i : Nat) (cur : Array Value), i ≤ xs.length ∧ t4 = .int .i64 i ∧ wr.heap[w.heap.size]? = some (.cells cur 32 (0, 0)) ∧ cur.size = xs.length * 6 ∧ Filled (reads (FromK (w.heap.size + 1)) wr h).ex 6 cur (xs.take i) ∧ Below w.heap.size w wr ∧ Plain w wr) (fun t4 _ => xs.length - (intOf t4).toNat)
  case atStart => exact ⟨0, _, Nat.zero_le _, rfl, heap_alloc_new w _, by rw [size_madeCells], Filled.nil _ _ _, (Below.refl _ w).alloc (Nat.le_refl _) _, (Plain.refl w).alloc _ _⟩
  case round =>
    obtain ⟨i, cur, hi, rfl, hcur, hsz, hfl, hbw, hpl⟩ := hrel
    have HPL := hide hpl
    clear hpl
    have HC := hide hcur
    have HF := hide hfl
    have HBW := hide hbw
    have HSZ := hide hsz
    clear hcur hfl hbw hsz
    by_cases hlt : i < xs.length
    · have hne : xs ≠ [] := by intro e; rw [e] at hlt; simp at hlt
      obtain ⟨x, hx⟩ : ∃ x, xs[i]? = some x := ⟨xs[i], List.getElem?_eq_getElem hlt⟩
      obtain ⟨b, off, eo, -, hbl, hcs⟩ := (HM.out.later HBW.out fun _ _ h => h) hne
      subst eo
      obtain ⟨cs, hlen, hkey, hrd⟩ := hcs i x hx
      obtain ⟨v0, v1, v2, v3, v4, v5, rfl⟩ := six hlen
      have q0 := hkey 0 v0 rfl
      have q1 := hkey 1 v1 rfl
      have q2 := hkey 2 v2 rfl
      have q3 := hkey 3 v3 rfl
      have q4 := hkey 4 v4 rfl
      have q5 := hkey 5 v5 rfl
      rw [Nat.add_zero] at q0
      have HX := hide hx
      have HRD := hide ((reads_later HBW.out h).1 x _ hrd)
      have HWT : Hid ((wts h).ex x ≤ 1048576) := by
        have h1 := le_sum (wts h).ex xs x (List.mem_of_getElem? hx)
        have h2 := HL.out
        unfold lw at h2
        exact (by omega : (wts h).ex x ≤ 1048576)
      clear hcs hx hne hkey hlen hrd
      have hlt2 : (i : Int) < xs.length := by omega
      have hw : w.heap.size < wr.heap.size := heap_lt HC.out
      go_wp2_with fail
      refine (HE.out x _ _ HRD.out HWT.out).mono ?_
      rintro e w1 ⟨cs', rfl, hlen', hrd', hb1, hpl1⟩
      obtain ⟨p1, d1, p2, d2, p3, d3, rfl⟩ := ex_form hrd'
      have HB1 := hide hb1
      have HP1 := hide (HPL.out.on hpl1 hb1)
      clear hpl1
      have HRD1 := hide hrd'
      have HC1 := hide ((hb1.block w.heap.size hw).trans HC.out)
      clear hb1 hrd' hlen'
      have s0 := cell_of HC1.out (i * 6)
      have s1 := cell_of HC1.out (i * 6 + 1)
      have s2 := cell_of HC1.out (i * 6 + 2)
      have s3 := cell_of HC1.out (i * 6 + 3)
      have s4 := cell_of HC1.out (i * 6 + 4)
      have s5 := cell_of HC1.out (i * 6 + 5)
      rw [Array.getElem?_eq_getElem (by rw [HSZ.out]; omega)] at s0 s1 s2 s3 s4 s5
      have f0 := frozen_of HC1.out (i * 6)
      have f1 := frozen_of HC1.out (i * 6 + 1)
      have f2 := frozen_of HC1.out (i * 6 + 2)
      have f3 := frozen_of HC1.out (i * 6 + 3)
      have f4 := frozen_of HC1.out (i * 6 + 4)
      have f5 := frozen_of HC1.out (i * 6 + 5)
      go_wp2
      refine ⟨⟨i + 1, _, by omega, by go_num, heap_set_same _ (heap_set_same _ (heap_set_same _ (heap_set_same _ (heap_set_same _ (heap_set_same _ HC1.out))))), by simpa using HSZ.out, ?_, ?_, (((((HP1.out.set _ _ _).set _ _ _).set _ _ _).set _ _ _).set _ _ _).set _ _ _⟩, by simp [intOf]; omega⟩
      · have no : ¬ FromK (w.heap.size + 1) w.heap.size := fun h => by have h2 : w.heap.size + 1 ≤ w.heap.size := h; omega
        have st := (((((stays_set (FromK (w.heap.size + 1)) w1 w.heap.size (i * 6) (.int .i64 x.k) no).trans (stays_set _ _ _ (i * 6 + 1) (.string x.s) no)).trans (stays_set _ _ _ (i * 6 + 2) (.int .i64 x.n) no)).trans (stays_set _ _ _ (i * 6 + 3) (.slice p1 x.l.length d1) no)).trans (stays_set _ _ _ (i * 6 + 4) (.slice p2 x.ds.length d2) no)).trans (stays_set _ _ _ (i * 6 + 5) (.slice p3 x.al.length d3) no)
        have sw := (Stays.of (K := FromK (w.heap.size + 1)) HB1.out).trans st
        have key := HF.out.snoc (cs := [.int .i64 x.k, .string x.s, .int .i64 x.n, .slice p1 x.l.length d1, .slice p2 x.ds.length d2, .slice p3 x.al.length d3]) (reads_frame sw (fun _ h => h) h).1 HX.out rfl HSZ.out ((reads_frame st (fun _ h => h) h).1 _ _ ((reads_frame (Stays.refl _ _) (fun b (hb : wr.heap.size ≤ b) => (by show w.heap.size + 1 ≤ b; omega)) h).1 _ _ HRD1.out))
        exact key
      · have h1 := HBW.out.trans (HB1.out.mono HBW.out.size)
        exact (((((h1.setCell (Nat.le_refl _) _).setCell (Nat.le_refl _) _).setCell (Nat.le_refl _) _).setCell (Nat.le_refl _) _).setCell (Nat.le_refl _) _).setCell (Nat.le_refl _) _
    · go_wp2
      go_ret
      have hie : i = xs.length := by omega
      subst hie
      have key := HF.out
      rw [List.take_length] at key
      refine ⟨_, _, rfl, Nat.le_refl _, RowOf.frame (K := FromK w.heap.size) (key.row HC.out (Nat.le_refl _)) (Stays.refl _ _) (fun _ h => h) (fun x cs hx => ?_), HBW.out, HPL.out⟩
      exact (reads_frame (Stays.refl _ _) (fun b (hb : w.heap.size + 1 ≤ b) => (by show w.heap.size ≤ b; omega)) h).1 _ _ hx

theorem info_Dec : (Try.prog.info? 44).map (fun i => (i.zero, i.size, i.bytes)) = some (some (.agg #[.string ⟨#[]⟩, .slice none 0 0, .int .i64 0, .string ⟨#[]⟩, .int .i64 0, .slice none 0 0, .slice none 0 0, .slice none 0 0, .slice none 0 0]), 9, 168) := by kernel_rfl
theorem make_Dec (n : Nat) (hn : n ≤ 1048576) (w : World) : (Instr.makeSlice 29 (.int .i64 (n : Int)) (.int .i64 (n : Int))).run Try.prog w = .ok (.slice (some ⟨w.heap.size, 0, none⟩) n n) (w.alloc (.cells (madeCells #[.string ⟨#[]⟩, .slice none 0 0, .int .i64 0, .string ⟨#[]⟩, .int .i64 0, .slice none 0 0, .slice none 0 0, .slice none 0 0, .slice none 0 0] (n * 9)) 44)) := by
  obtain ⟨i0, hi, hz0, hz1, hz2⟩ := info_parts info_Dec
  have hr := run_make (P := Try.prog) w 29 44 i0 _ Try.underlying29 hi hz0 .i64 .i64 n n (by omega) (Int.le_refl _) (by rw [hz2]; omega) (by omega)
  rw [hz1, Int.toNat_natCast] at hr
  exact hr

set_option maxHeartbeats 800000 in
set_option maxRecDepth 100000 in
theorem toDecS_of {h : Nat} (hE : ToDe h) (xs : List Tr) (o : Option Addr) (cap : Nat) (w : World) (hl : lw (wts h).de xs ≤ 1048576) (hm : RowOf AllK w (reads AllK w h).de 9 o xs) :
    Calls Try.prog 23 #[.slice o xs.length cap] w fun e w' => ∃ o' c', e = .returned (.slice o' xs.length c') ∧ xs.length ≤ c' ∧ RowOf (FromK w.heap.size) w' (reads (FromK w.heap.size) w' h).de 9 o' xs ∧ Below w.heap.size w w' ∧ Plain w w' := by
  have HM := hide hm
  have HE := hide hE
  have HL := hide hl
  have hl2 : xs.length ≤ 1048576 := by unfold lw at hl; omega
  clear hm hE hl
  have hmk := make_Dec xs.length hl2
  go_enter Try.func23, Try.ntmps23
  go_wp2
  clear hmk
  go_loopw [4] (fun t4 wr => ∃ (i : Nat) (cur : Array Value), i ≤ xs.length ∧ t4 = .int .i64 i ∧ wr.heap[w.heap.size]? = some (.cells cur 44 (0, 0)) ∧ cur.size = xs.length * 9 ∧ Filled (reads (FromK (w.heap.size + 1)) wr h).de 9 cur (xs.take i) ∧ Below w.heap.size w wr ∧ Plain w wr) (fun t4 _ => xs.length - (intOf t4).toNat)
  case atStart => exact ⟨0, _, Nat.zero_le _, rfl, heap_alloc_new w _, by rw [size_madeCells], Filled.nil _ _ _, (Below.refl _ w).alloc (Nat.le_refl _) _, (Plain.refl w).alloc _ _⟩
  case round =>
    obtain ⟨i, cur, hi, rfl, hcur, hsz, hfl, hbw, hpl⟩ := hrel
    have HPL := hide hpl
    clear hpl
    have HC := hide hcur
    have HF := hide hfl
    have HBW := hide hbw
    have HSZ := hide hsz
    clear hcur hfl hbw hsz
    by_cases hlt : i < xs.length
    · have hne : xs ≠ [] := by intro e; rw [e] at hlt; simp at hlt
      obtain ⟨x, hx⟩ : ∃ x, xs[i]? = some x := ⟨xs[i], List.getElem?_eq_getElem hlt⟩
      obtain ⟨b, off, eo, -, hbl, hcs⟩ := (HM.out.later HBW.out fun _ _ h => h) hne
      subst eo
      obtain ⟨cs, hlen, hkey, hrd⟩ := hcs i x hx
      obtain ⟨v0, v1, v2, v3, v4, v5, v6, v7, v8, rfl⟩ := nine hlen
      have q0 := hkey 0 v0 rfl
      have q1 := hkey 1 v1 rfl
      have q2 := hkey 2 v2 rfl
      have q3 := hkey 3 v3 rfl
      have q4 := hkey 4 v4 rfl
      have q5 := hkey 5 v5 rfl
      have q6 := hkey 6 v6 rfl
      have q7 := hkey 7 v7 rfl
      have q8 := hkey 8 v8 rfl
      rw [Nat.add_zero] at q0
      have HX := hide hx
      have HRD := hide ((reads_later HBW.out h).2.1 x _ hrd)
      have HWT : Hid ((wts h).de x ≤ 1048576) := by
        have h1 := le_sum (wts h).de xs x (List.mem_of_getElem? hx)
        have h2 := HL.out
        unfold lw at h2
        exact (by omega : (wts h).de x ≤ 1048576)
      clear hcs hx hne hkey hlen hrd
      have hlt2 : (i : Int) < xs.length := by omega
      have hw : w.heap.size < wr.heap.size := heap_lt HC.out
      go_wp2_with fail
      refine (HE.out x _ _ HRD.out HWT.out).mono ?_
      rintro e w1 ⟨cs', rfl, hlen', hrd', hb1, hpl1⟩
      obtain ⟨y, p0, d0, p1, d1, p2, d2, p3, d3, p4, d4, rfl⟩ := de_form hrd'
      have HB1 := hide hb1
      have HP1 := hide (HPL.out.on hpl1 hb1)
      clear hpl1
      have HRD1 := hide hrd'
      have HC1 := hide ((hb1.block w.heap.size hw).trans HC.out)
      clear hb1 hrd' hlen'
      have s0 := cell_of HC1.out (i * 9)
      have s1 := cell_of HC1.out (i * 9 + 1)
      have s2 := cell_of HC1.out (i * 9 + 2)
      have s3 := cell_of HC1.out (i * 9 + 3)
      have s4 := cell_of HC1.out (i * 9 + 4)
      have s5 := cell_of HC1.out (i * 9 + 5)
      have s6 := cell_of HC1.out (i * 9 + 6)
      have s7 := cell_of HC1.out (i * 9 + 7)
      have s8 := cell_of HC1.out (i * 9 + 8)
      rw [Array.getElem?_eq_getElem (by rw [HSZ.out]; omega)] at s0 s1 s2 s3 s4 s5 s6 s7 s8
      have f0 := frozen_of HC1.out (i * 9)
      have f1 := frozen_of HC1.out (i * 9 + 1)
      have f2 := frozen_of HC1.out (i * 9 + 2)
      have f3 := frozen_of HC1.out (i * 9 + 3)
      have f4 := frozen_of HC1.out (i * 9 + 4)
      have f5 := frozen_of HC1.out (i * 9 + 5)
      have f6 := frozen_of HC1.out (i * 9 + 6)
      have f7 := frozen_of HC1.out (i * 9 + 7)
      have f8 := frozen_of HC1.out (i * 9 + 8)
      go_wp2
      refine ⟨⟨i + 1, _, by omega, by go_num, heap_set_same _ (heap_set_same _ (heap_set_same _ (heap_set_same _ (heap_set_same _ (heap_set_same _ (heap_set_same _ (heap_set_same _ (heap_set_same _ HC1.out)))))))), by simpa using HSZ.out, ?_, ?_, ((((((((HP1.out.set _ _ _).set _ _ _).set _ _ _).set _ _ _).set _ _ _).set _ _ _).set _ _ _).set _ _ _).set _ _ _⟩, by simp [intOf]; omega⟩
      · have no : ¬ FromK (w.heap.size + 1) w.heap.size := fun h => by have h2 : w.heap.size + 1 ≤ w.heap.size := h; omega
        have st := ((((((((stays_set (FromK (w.heap.size + 1)) w1 w.heap.size (i * 9) (.string x.s) no).trans (stays_set _ _ _ (i * 9 + 1) (.slice p0 x.ss.length d0) no)).trans (stays_set _ _ _ (i * 9 + 2) (.int .i64 y.k) no)).trans (stays_set _ _ _ (i * 9 + 3) (.string y.s) no)).trans (stays_set _ _ _ (i * 9 + 4) (.int .i64 y.n) no)).trans (stays_set _ _ _ (i * 9 + 5) (.slice p1 y.l.length d1) no)).trans (stays_set _ _ _ (i * 9 + 6) (.slice p2 y.ds.length d2) no)).trans (stays_set _ _ _ (i * 9 + 7) (.slice p3 y.al.length d3) no)).trans (stays_set _ _ _ (i * 9 + 8) (.slice p4 x.ds.length d4) no)
        have sw := (Stays.of (K := FromK (w.heap.size + 1)) HB1.out).trans st
        have key := HF.out.snoc (cs := [.string x.s, .slice p0 x.ss.length d0, .int .i64 y.k, .string y.s, .int .i64 y.n, .slice p1 y.l.length d1, .slice p2 y.ds.length d2, .slice p3 y.al.length d3, .slice p4 x.ds.length d4]) (reads_frame sw (fun _ h => h) h).2.1 HX.out rfl HSZ.out ((reads_frame st (fun _ h => h) h).2.1 _ _ ((reads_frame (Stays.refl _ _) (fun b (hb : wr.heap.size ≤ b) => (by show w.heap.size + 1 ≤ b; omega)) h).2.1 _ _ HRD1.out))
        exact key
      · have h1 := HBW.out.trans (HB1.out.mono HBW.out.size)
        exact ((((((((h1.setCell (Nat.le_refl _) _).setCell (Nat.le_refl _) _).setCell (Nat.le_refl _) _).setCell (Nat.le_refl _) _).setCell (Nat.le_refl _) _).setCell (Nat.le_refl _) _).setCell (Nat.le_refl _) _).setCell (Nat.le_refl _) _).setCell (Nat.le_refl _) _
    · go_wp2
      go_ret
      have hie : i = xs.length := by omega
      subst hie
      have key := HF.out
      rw [List.take_length] at key
      refine ⟨_, _, rfl, Nat.le_refl _, RowOf.frame (K := FromK w.heap.size) (key.row HC.out (Nat.le_refl _)) (Stays.refl _ _) (fun _ h => h) (fun x cs hx => ?_), HBW.out, HPL.out⟩
      exact (reads_frame (Stays.refl _ _) (fun b (hb : w.heap.size + 1 ≤ b) => (by show w.heap.size ≤ b; omega)) h).2.1 _ _ hx

theorem info_Alt : (Try.prog.info? 54).map (fun i => (i.zero, i.size, i.bytes)) = some (some (.agg #[.string ⟨#[]⟩, .slice none 0 0, .int .i64 0, .string ⟨#[]⟩, .int .i64 0, .slice none 0 0, .slice none 0 0, .slice none 0 0]), 8, 144) := by kernel_rfl
theorem make_Alt (n : Nat) (hn : n ≤ 1048576) (w : World) : (Instr.makeSlice 30 (.int .i64 (n : Int)) (.int .i64 (n : Int))).run Try.prog w = .ok (.slice (some ⟨w.heap.size, 0, none⟩) n n) (w.alloc (.cells (madeCells #[.string ⟨#[]⟩, .slice none 0 0, .int .i64 0, .string ⟨#[]⟩, .int .i64 0, .slice none 0 0, .slice none 0 0, .slice none 0 0] (n * 8)) 54)) := by
  obtain ⟨i0, hi, hz0, hz1, hz2⟩ := info_parts info_Alt
  have hr := run_make (P := Try.prog) w 30 54 i0 _ Try.underlying30 hi hz0 .i64 .i64 n n (by omega) (Int.le_refl _) (by rw [hz2]; omega) (by omega)
  rw [hz1, Int.toNat_natCast] at hr
  exact hr

set_option maxHeartbeats 800000 in
set_option maxRecDepth 100000 in
theorem toAltS_of {h : Nat} (hE : ToAl h) (xs : List Tr) (o : Option Addr) (cap : Nat) (w : World) (hl : lw (wts h).al xs ≤ 1048576) (hm : RowOf AllK w (reads AllK w h).al 8 o xs) :
    Calls Try.prog 24 #[.slice o xs.length cap] w fun e w' => ∃ o' c', e = .returned (.slice o' xs.length c') ∧ xs.length ≤ c' ∧ RowOf (FromK w.heap.size) w' (reads (FromK w.heap.size) w' h).al 8 o' xs ∧ Below w.heap.size w w' ∧ Plain w w' := by
  have HM := hide hm
  have HE := hide hE
  have HL := hide hl
  have hl2 : xs.length ≤ 1048576 := by unfold lw at hl; omega
  clear hm hE hl
  have hmk := make_Alt xs.length hl2
  go_enter Try.func24, Try.ntmps24
  go_wp2
  clear hmk
  go_loopw [4] (fun t4 wr => ∃ (i : Nat) (cur : Array Value), i ≤ xs.length ∧ t4 = .int .i64 i ∧ wr.heap[w.heap.size]? = some (.cells cur 54 (0, 0)) ∧ cur.size = xs.length * 8 ∧ Filled (reads (FromK (w.heap.size + 1)) wr h).al 8 cur (xs.take i) ∧ Below w.heap.size w wr ∧ Plain w wr) (fun t4 _ => xs.length - (intOf t4).toNat)
  case atStart => exact ⟨0, _, Nat.zero_le _, rfl, heap_alloc_new w _, by rw [size_madeCells], Filled.nil _ _ _, (Below.refl _ w).alloc (Nat.le_refl _) _, (Plain.refl w).alloc _ _⟩
  case round =>
    obtain ⟨i, cur, hi, rfl, hcur, hsz, hfl, hbw, hpl⟩ := hrel
    have HPL := hide hpl
    clear hpl
    have HC := hide hcur
    have HF := hide hfl
    have HBW := hide hbw
    have HSZ := hide hsz
    clear hcur hfl hbw hsz
    by_cases hlt : i < xs.length
    · have hne : xs ≠ [] := by intro e; rw [e] at hlt; simp at hlt
      obtain ⟨x, hx⟩ : ∃ x, xs[i]? = some x := ⟨xs[i], List.getElem?_eq_getElem hlt⟩
      obtain ⟨b, off, eo, -, hbl, hcs⟩ := (HM.out.later HBW.out fun _ _ h => h) hne
      subst eo
      obtain ⟨cs, hlen, hkey, hrd⟩ := hcs i x hx
      obtain ⟨v0, v1, v2, v3, v4, v5, v6, v7, rfl⟩ := eight hlen
      have q0 := hkey 0 v0 rfl
      have q1 := hkey 1 v1 rfl
      have q2 := hkey 2 v2 rfl
      have q3 := hkey 3 v3 rfl
      have q4 := hkey 4 v4 rfl
      have q5 := hkey 5 v5 rfl
      have q6 := hkey 6 v6 rfl
      have q7 := hkey 7 v7 rfl
      rw [Nat.add_zero] at q0
      have HX := hide hx
      have HRD := hide ((reads_later HBW.out h).2.2 x _ hrd)
      have HWT : Hid ((wts h).al x ≤ 1048576) := by
        have h1 := le_sum (wts h).al xs x (List.mem_of_getElem? hx)
        have h2 := HL.out
        unfold lw at h2
        exact (by omega : (wts h).al x ≤ 1048576)
      clear hcs hx hne hkey hlen hrd
      have hlt2 : (i : Int) < xs.length := by omega
      have hw : w.heap.size < wr.heap.size := heap_lt HC.out
      go_wp2_with fail
      refine (HE.out x _ _ HRD.out HWT.out).mono ?_
      rintro e w1 ⟨cs', rfl, hlen', hrd', hb1, hpl1⟩
      obtain ⟨y, p0, d0, p1, d1, p2, d2, p3, d3, rfl⟩ := al_form hrd'
      have HB1 := hide hb1
      have HP1 := hide (HPL.out.on hpl1 hb1)
      clear hpl1
      have HRD1 := hide hrd'
      have HC1 := hide ((hb1.block w.heap.size hw).trans HC.out)
      clear hb1 hrd' hlen'
      have s0 := cell_of HC1.out (i * 8)
      have s1 := cell_of HC1.out (i * 8 + 1)
      have s2 := cell_of HC1.out (i * 8 + 2)
      have s3 := cell_of HC1.out (i * 8 + 3)
      have s4 := cell_of HC1.out (i * 8 + 4)
      have s5 := cell_of HC1.out (i * 8 + 5)
      have s6 := cell_of HC1.out (i * 8 + 6)
      have s7 := cell_of HC1.out (i * 8 + 7)
      rw [Array.getElem?_eq_getElem (by rw [HSZ.out]; omega)] at s0 s1 s2 s3 s4 s5 s6 s7
      have f0 := frozen_of HC1.out (i * 8)
      have f1 := frozen_of HC1.out (i * 8 + 1)
      have f2 := frozen_of HC1.out (i * 8 + 2)
      have f3 := frozen_of HC1.out (i * 8 + 3)
      have f4 := frozen_of HC1.out (i * 8 + 4)
      have f5 := frozen_of HC1.out (i * 8 + 5)
      have f6 := frozen_of HC1.out (i * 8 + 6)
      have f7 := frozen_of HC1.out (i * 8 + 7)
      go_wp2
      refine ⟨⟨i + 1, _, by omega, by go_num, heap_set_same _ (heap_set_same _ (heap_set_same _ (heap_set_same _ (heap_set_same _ (heap_set_same _ (heap_set_same _ (heap_set_same _ HC1.out))))))), by simpa using HSZ.out, ?_, ?_, (((((((HP1.out.set _ _ _).set _ _ _).set _ _ _).set _ _ _).set _ _ _).set _ _ _).set _ _ _).set _ _ _⟩, by simp [intOf]; omega⟩
      · have no : ¬ FromK (w.heap.size + 1) w.heap.size := fun h => by have h2 : w.heap.size + 1 ≤ w.heap.size := h; omega
        have st := (((((((stays_set (FromK (w.heap.size + 1)) w1 w.heap.size (i * 8) (.string x.s) no).trans (stays_set _ _ _ (i * 8 + 1) (.slice p0 x.ss.length d0) no)).trans (stays_set _ _ _ (i * 8 + 2) (.int .i64 y.k) no)).trans (stays_set _ _ _ (i * 8 + 3) (.string y.s) no)).trans (stays_set _ _ _ (i * 8 + 4) (.int .i64 y.n) no)).trans (stays_set _ _ _ (i * 8 + 5) (.slice p1 y.l.length d1) no)).trans (stays_set _ _ _ (i * 8 + 6) (.slice p2 y.ds.length d2) no)).trans (stays_set _ _ _ (i * 8 + 7) (.slice p3 y.al.length d3) no)
        have sw := (Stays.of (K := FromK (w.heap.size + 1)) HB1.out).trans st
        have key := HF.out.snoc (cs := [.string x.s, .slice p0 x.ss.length d0, .int .i64 y.k, .string y.s, .int .i64 y.n, .slice p1 y.l.length d1, .slice p2 y.ds.length d2, .slice p3 y.al.length d3]) (reads_frame sw (fun _ h => h) h).2.2 HX.out rfl HSZ.out ((reads_frame st (fun _ h => h) h).2.2 _ _ ((reads_frame (Stays.refl _ _) (fun b (hb : wr.heap.size ≤ b) => (by show w.heap.size + 1 ≤ b; omega)) h).2.2 _ _ HRD1.out))
        exact key
      · have h1 := HBW.out.trans (HB1.out.mono HBW.out.size)
        exact (((((((h1.setCell (Nat.le_refl _) _).setCell (Nat.le_refl _) _).setCell (Nat.le_refl _) _).setCell (Nat.le_refl _) _).setCell (Nat.le_refl _) _).setCell (Nat.le_refl _) _).setCell (Nat.le_refl _) _).setCell (Nat.le_refl _) _
    · go_wp2
      go_ret
      have hie : i = xs.length := by omega
      subst hie
      have key := HF.out
      rw [List.take_length] at key
      refine ⟨_, _, rfl, Nat.le_refl _, RowOf.frame (K := FromK w.heap.size) (key.row HC.out (Nat.le_refl _)) (Stays.refl _ _) (fun _ h => h) (fun x cs hx => ?_), HBW.out, HPL.out⟩
      exact (reads_frame (Stays.refl _ _) (fun b (hb : w.heap.size + 1 ≤ b) => (by show w.heap.size ≤ b; omega)) h).2.2 _ _ hx

end Go.Proofs.Ytgeckgdmkjddpaa
namespace Go.Proofs.Ytgeckgdmkjddpaa
open Go.RowKit

theorem tok_eta (t : TokZ) : Value.agg #[.int .i64 t.k, .string t.s, .int .i64 t.l, .int .i64 t.c] = aggZ t := rfl

theorem take_set4 (cur : Array Value) (i : Nat) (h : i * 4 + 4 ≤ cur.size) (a b c d : Value) : ((((cur.set! (i * 4) a).set! (i * 4 + 1) b).set! (i * 4 + 2) c).set! (i * 4 + 3) d).toList.take ((i + 1) * 4) = cur.toList.take (i * 4) ++ [a, b, c, d] := by
  have hl : cur.toList.length = cur.size := Array.length_toList
  apply List.ext_getElem?
  intro n
  rw [List.getElem?_take, List.getElem?_append, List.length_take, Nat.min_eq_left (by omega), List.getElem?_take]
  simp only [Array.set!_eq_setIfInBounds, Array.toList_setIfInBounds, List.getElem?_set, List.length_set]
  by_cases h0 : n < i * 4
  · rw [if_pos (by omega), if_neg (by omega), if_neg (by omega), if_neg (by omega), if_neg (by omega), if_pos h0, if_pos h0]
  · rw [if_neg h0]
    by_cases h4 : n < (i + 1) * 4
    · rw [if_pos h4]
      obtain ⟨j, hj, rfl⟩ : ∃ j, j < 4 ∧ n = i * 4 + j := ⟨n - i * 4, by omega, by omega⟩
      rw [Nat.add_sub_cancel_left]
      match j, hj with
      | 0, _ => rw [if_neg (by omega), if_neg (by omega), if_neg (by omega), if_pos (by omega), if_pos (by omega)]; rfl
      | 1, _ => rw [if_neg (by omega), if_neg (by omega), if_pos rfl, if_pos (by omega)]; rfl
      | 2, _ => rw [if_neg (by omega), if_pos rfl, if_pos (by omega)]; rfl
      | 3, _ => rw [if_pos rfl, if_pos (by omega)]; rfl
    · rw [if_neg h4]
      exact (List.getElem?_eq_none (by show 4 ≤ _; omega)).symm

end Go.Proofs.Ytgeckgdmkjddpaa
