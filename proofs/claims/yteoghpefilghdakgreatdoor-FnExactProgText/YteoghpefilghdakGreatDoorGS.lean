/- Made of ER, ES, ESb, ESc. -/
import Derived.Test.YteoghpefilghdakGreatDoorGE
import Derived.Test.YteoghpefilghdakGreatDoorGL
import Derived.Test.YteoghpefilghdakGreatDoorEF
namespace Go.Proofs.YteoghpefilghdakGreatDoor
set_option linter.unusedSimpArgs false

def tyL : Nat → Tr → List UInt8
  | 0, _ => []
  | h + 1, t => if t.k = 1 then [73, 110, 116] else if t.k = 2 then [66, 111, 111, 108] else if t.k = 3 then bl t.s else brL (decide ((partT t 0).k = 4)) (tyL h (partT t 0)) ++ ([32, 45, 62, 32] ++ tyL h (partT t 1))
def tyPL (h : Nat) (t : Tr) : List UInt8 := brL (decide (t.k = 4)) (tyL h t)
theorem ty_1 {h : Nat} {t : Tr} (hk : t.k = 1) : tyL (h + 1) t = [73, 110, 116] := by
  show (if t.k = 1 then _ else _) = _
  rw [if_pos hk]
theorem ty_2 {h : Nat} {t : Tr} (hk : t.k = 2) : tyL (h + 1) t = [66, 111, 111, 108] := by
  show (if t.k = 1 then _ else if t.k = 2 then _ else _) = _
  rw [if_neg (by omega), if_pos hk]
theorem ty_3 {h : Nat} {t : Tr} (hk : t.k = 3) : tyL (h + 1) t = bl t.s := by
  show (if t.k = 1 then _ else if t.k = 2 then _ else if t.k = 3 then _ else _) = _
  rw [if_neg (by omega), if_neg (by omega), if_pos hk]
theorem ty_4 {h : Nat} {t a b : Tr} (hk : t.k = 4) (hl : t.l = [a, b]) : tyL (h + 1) t = tyPL h a ++ ([32, 45, 62, 32] ++ tyL h b) := by
  show (if t.k = 1 then _ else if t.k = 2 then _ else if t.k = 3 then _ else brL (decide ((partT t 0).k = 4)) (tyL h (partT t 0)) ++ ([32, 45, 62, 32] ++ tyL h (partT t 1))) = _
  rw [if_neg (by omega), if_neg (by omega), if_neg (by omega), part0 hl, part1 hl]
  rfl
theorem ty_kinds {h : Nat} {t : Tr} {d : Int} (H : tyB (h + 1) t d = true) : d ≤ 6 ∧ (t.k = 1 ∨ t.k = 2 ∨ (t.k = 3 ∧ t.s.size ≤ 8) ∨ (t.k = 4 ∧ ∃ a b, t.l = [a, b] ∧ tyB h a (d + 1) = true ∧ tyB h b (d + 1) = true)) := by
  have H2 : (tyHere t d && allZ (tyB h) t.l (d + 1)) = true := H
  rw [Bool.and_eq_true] at H2
  obtain ⟨h1, h2⟩ := H2
  unfold tyHere at h1
  simp only [Bool.and_eq_true, decide_eq_true_eq] at h1
  obtain ⟨hd, hn, hk⟩ := h1
  refine ⟨hd, ?_⟩
  split at hk
  · rename_i h12
    rcases h12 with h | h
    · exact .inl h
    · exact .inr (.inl h)
  · split at hk
    · rename_i h3
      refine .inr (.inr (.inl ⟨h3, ?_⟩))
      unfold tyNm at hk
      simp only [Bool.and_eq_true] at hk
      exact (gr_size hk.1.1).1
    · split at hk
      · rename_i h4
        simp only [Bool.and_eq_true, decide_eq_true_eq] at hk
        obtain ⟨a, b, hl⟩ := zlen2 hk.2
        exact .inr (.inr (.inr ⟨h4, a, b, hl, allZ_mem h2 (by rw [hl]; simp), allZ_mem h2 (by rw [hl]; simp)⟩))
      · cases hk
theorem tyN_4 {h : Nat} {t a b : Tr} (hl : t.l = [a, b]) : tyN (h + 1) t = 1 + tyN h a + tyN h b := by
  show 1 + sumZ (tyN h) t.l = _
  rw [hl]
  simp [sumZ]
  omega
theorem tyL_len (h : Nat) : ∀ (t : Tr) (d : Int), tyB h t d = true → (tyL h t).length + 6 ≤ 20 * tyN h t := by
  induction h with
  | zero => intro t d H; cases H
  | succ h ih =>
    intro t d H
    have hpos : 1 ≤ tyN (h + 1) t := by show 1 ≤ 1 + _; omega
    obtain ⟨-, k | k | ⟨k, hs⟩ | ⟨k, a, b, hl, ha, hb⟩⟩ := ty_kinds H
    · rw [ty_1 k]; simp; omega
    · rw [ty_2 k]; simp; omega
    · rw [ty_3 k, bl_len]; omega
    · have h1 := ih a _ ha
      have h2 := ih b _ hb
      have h3 := (brL_len (decide (a.k = 4)) (tyL h a)).1
      rw [ty_4 k hl, tyN_4 hl]
      unfold tyPL
      simp only [List.length_append, List.length_cons, List.length_nil]
      omega
def argsL (h : Nat) (l : List Tr) : List UInt8 := l.flatMap fun t => 32 :: tyPL h t
def conL (h : Nat) (c : Tr) : List UInt8 := bl c.s ++ argsL h c.l
def consJ (h : Nat) (l : List Tr) : List UInt8 := (l.flatMap fun c => [32, 124, 32] ++ conL h c).drop 3
def dataL (h : Nat) (d : Tr) : List UInt8 := [100, 97, 116, 97, 32] ++ (bl d.s ++ ([32, 61, 32] ++ consJ h d.l))
def datasL (h : Nat) (l : List Tr) : List UInt8 := l.flatMap fun d => dataL h d ++ [10]
def topsL (h : Nat) (l : List Tr) : List UInt8 := l.flatMap fun d => (txt h).de d 0 ++ [10]
def progL (h : Nat) (x : Tr) : List UInt8 := datasL h x.l ++ topsL h x.ds
theorem flat_take {f : Tr → List UInt8} (l : List Tr) (i : Nat) (x : Tr) (hx : l[i]? = some x) : (l.take (i + 1)).flatMap f = (l.take i).flatMap f ++ f x := by
  rw [List.take_add_one, hx, List.flatMap_append]
  simp
theorem flat_take_len (f : Tr → List UInt8) (l : List Tr) (i : Nat) : ((l.take i).flatMap f).length ≤ (l.flatMap f).length := by
  conv => rhs; rw [← List.take_append_drop i l, List.flatMap_append, List.length_append]
  omega
theorem flat_len (f : Tr → List UInt8) (l : List Tr) (m : Nat) (h : ∀ x, x ∈ l → (f x).length ≤ m) : (l.flatMap f).length ≤ m * l.length := by
  induction l with
  | nil => simp
  | cons a r ih =>
    have h1 := ih fun x hx => h x (List.mem_cons_of_mem _ hx)
    have h2 := h a (List.mem_cons_self ..)
    rw [List.flatMap_cons, List.length_append, List.length_cons, Nat.mul_add, Nat.mul_one]
    omega
theorem consJ_next (h : Nat) (l : List Tr) (i : Nat) (c : Tr) (hc : l[i]? = some c) : consJ h (l.take (i + 1)) = if i = 0 then conL h c else consJ h (l.take i) ++ ([32, 124, 32] ++ conL h c) := by
  unfold consJ
  rw [flat_take l i c hc]
  split
  · rename_i h0
    subst h0
    simp
  · rename_i h0
    cases l with
    | nil => simp at hc
    | cons a r =>
      cases i with
      | zero => exact absurd rfl h0
      | succ i => simp
structure ConOk (h : Nat) (c : Tr) : Prop where
  size : c.s.size ≤ 8
  len : c.l.length ≤ 4
  args : ∀ t, t ∈ c.l → tyB h t 1 = true ∧ tyN h t ≤ 10
structure DataOk (h : Nat) (d : Tr) : Prop where
  size : d.s.size ≤ 8
  len : 1 ≤ d.l.length ∧ d.l.length ≤ 5
  cons : ∀ c, c ∈ d.l → ConOk h c
structure ProgsOk (h : Nat) (x : Tr) : Prop where
  len : x.l.length ≤ 5
  datas : ∀ d, d ∈ x.l → DataOk h d
  decs : 1 ≤ x.ds.length ∧ ∀ d, d ∈ x.ds → (okz h).de d 0 = true
  cnt : sumZ (cnt h).de x.ds ≤ 200
theorem own_size {s : ByteArray} (h : ownB s = true) : s.size ≤ 8 := by
  unfold ownB at h
  rw [Bool.and_eq_true] at h
  exact (gr_size h.1).1
theorem prog_of {h : Nat} {x : Tr} (H : progB h x = true) : ProgsOk h x := by
  rw [prog_same] at H
  unfold datasB at H
  simp only [Bool.and_eq_true, decide_eq_true_eq] at H
  obtain ⟨⟨h1, h2, -⟩, h3, h4⟩ := H
  refine ⟨h1, fun d hd => ?_, decs_of h3, h4⟩
  have hd1 := List.all_eq_true.1 h2 d hd
  unfold data1 consB at hd1
  simp only [Bool.and_eq_true] at hd1
  obtain ⟨e1, e2, e3⟩ := hd1
  unfold inB at e2
  simp only [Bool.and_eq_true, decide_eq_true_eq] at e2
  refine ⟨own_size e1, by omega, fun c hc => ?_⟩
  have hc1 := List.all_eq_true.1 e3 c hc
  unfold con1 argsB at hc1
  simp only [Bool.and_eq_true, decide_eq_true_eq] at hc1
  obtain ⟨g1, g2, g3⟩ := hc1
  refine ⟨own_size g1, g2, fun t ht => ?_⟩
  have ht1 := List.all_eq_true.1 g3 t ht
  unfold argB at ht1
  rw [wr_ten h t 1 (by omega), Bool.and_eq_true] at ht1
  exact ⟨ht1.1, of_decide_eq_true ht1.2⟩
theorem tyPL_len {h : Nat} {t : Tr} {d : Int} (hb : tyB h t d = true) (hn : tyN h t ≤ 10) : (tyPL h t).length ≤ 196 := by
  have h1 := tyL_len h t d hb
  have h2 := (brL_len (decide (t.k = 4)) (tyL h t)).1
  unfold tyPL
  omega
theorem argsL_len {h : Nat} {c : Tr} (H : ConOk h c) : (argsL h c.l).length ≤ 788 := by
  have := flat_len (fun t => 32 :: tyPL h t) c.l 197 fun t ht => by
    have h1 := tyPL_len (H.args t ht).1 (H.args t ht).2
    rw [List.length_cons]; omega
  have h4 := H.len
  unfold argsL
  omega
theorem conL_len {h : Nat} {c : Tr} (H : ConOk h c) : (conL h c).length ≤ 796 := by
  have h1 := argsL_len H
  have h2 := H.size
  unfold conL
  rw [List.length_append, bl_len]
  omega
theorem consJ_len {h : Nat} {d : Tr} (H : DataOk h d) : (consJ h d.l).length ≤ 3995 := by
  have h1 := flat_len (fun c => [32, 124, 32] ++ conL h c) d.l 799 fun c hc => by
    have h1 := conL_len (H.cons c hc)
    rw [List.length_append]
    show 3 + _ ≤ _
    omega
  have h2 := H.len.2
  unfold consJ
  rw [List.length_drop]
  omega
theorem dataL_len {h : Nat} {d : Tr} (H : DataOk h d) : (dataL h d).length ≤ 4011 := by
  have h1 := consJ_len H
  have h2 := H.size
  unfold dataL
  simp only [List.length_append, List.length_cons, List.length_nil, bl_len]
  omega
theorem datasL_len {h : Nat} {x : Tr} (H : ProgsOk h x) : (datasL h x.l).length ≤ 20060 := by
  have h1 := flat_len (fun d => dataL h d ++ [10]) x.l 4012 fun d hd => by
    have h1 := dataL_len (H.datas d hd)
    rw [List.length_append]
    show _ + 1 ≤ _
    omega
  have h2 := H.len
  unfold datasL
  omega
theorem topsL_len {K : Nat → Prop} {w : World} {h : Nat} (o : Option Addr) (l : List Tr) (hm : RowOf K w (reads K w h).de 9 o l) (hok : ∀ d, d ∈ l → (okz h).de d 0 = true) : (topsL h l).length ≤ 1000 * sumZ (cnt h).de l := by
  have key : ∀ d, d ∈ l → ((txt h).de d 0).length + 1 ≤ 1000 * (cnt h).de d := fun d hd => by
    obtain ⟨cs, hc⟩ := row_mem hm hd
    have := (txt_len K w h).de d cs 0 0 hc (hok d hd) (by omega)
    omega
  unfold topsL sumZ
  clear hm hok
  induction l with
  | nil => simp
  | cons a r ih =>
    have h1 := ih fun x hx => key x (List.mem_cons_of_mem _ hx)
    have h2 := key a (List.mem_cons_self ..)
    rw [List.flatMap_cons, List.length_append, List.length_append, List.map_cons, List.sum_cons, Nat.mul_add]
    show _ + 1 + _ ≤ _
    omega
end Go.Proofs.YteoghpefilghdakGreatDoor
namespace Go.Proofs.YteoghpefilghdakGreatDoor
open Go.ChangeShapes Go.WideShapes Go.ChangeAt Go.RowKit
set_option linter.unusedVariables false
set_option linter.unusedSimpArgs false

theorem ret_strb {a b : ByteArray} (h : a = b) : Ending.returned (.tuple #[.string a, .bool true]) = .returned (.tuple #[.string b, .bool true]) := by rw [h]
def SpTy (h : Nat) : Prop := ∀ (K : Nat → Prop) (x : Tr) (cs : List Value) (w : World) (d : Int), tyR K w h x cs → tyB h x d = true → tyN h x ≤ 10 → 0 ≤ d → Calls Tryz.prog 55 #[.agg cs.toArray, .int .i64 d] w fun e w' => e = .returned (.tuple #[.string (ofL (tyL h x)), .bool true]) ∧ Below w.heap.size w w'
set_option maxHeartbeats 2000000 in
set_option maxRecDepth 100000 in
theorem spTy_step {h : Nat} (ih : SpTy h) : SpTy (h + 1) := by
  intro K x cs w d hr hb hN hd0
  obtain ⟨hd, hk⟩ := ty_kinds hb
  have hlen := tyL_len (h + 1) x d hb
  obtain ⟨-, -, -, o, c, rfl, hs, hf, hrow⟩ := hr
  have hl2 : x.l.length ≤ 9223372036854775807 := hf.1
  have h12 : ¬ 12 < d := by omega
  rcases hk with k | k | ⟨k, hs8⟩ | ⟨k, a, b, hl, ha, hb2⟩
  · have HT := hide (ty_1 (h := h) k)
    show Calls Tryz.prog 55 #[.agg #[.int .i64 x.k, .string x.s, .int .i64 x.n, .slice o x.l.length c], .int .i64 d] w _
    rw [k]
    have HB0 : Hid (Below w.heap.size w (w.alloc (.cells #[.int .i64 1, .string x.s, .int .i64 x.n, .slice o x.l.length c] 81))) := (Below.refl _ w).alloc (Nat.le_refl _) _
    clear k hrow ih hb hlen
    go_enter Tryz.func55, Tryz.ntmps55
    go_wp2
    go_ret2
    exact ⟨ret_strb (by rw [HT.out]; rfl), HB0.out⟩
  · have HT := hide (ty_2 (h := h) k)
    show Calls Tryz.prog 55 #[.agg #[.int .i64 x.k, .string x.s, .int .i64 x.n, .slice o x.l.length c], .int .i64 d] w _
    rw [k]
    have HB0 : Hid (Below w.heap.size w (w.alloc (.cells #[.int .i64 2, .string x.s, .int .i64 x.n, .slice o x.l.length c] 81))) := (Below.refl _ w).alloc (Nat.le_refl _) _
    clear k hrow ih hb hlen
    go_enter Tryz.func55, Tryz.ntmps55
    go_wp2
    go_ret2
    exact ⟨ret_strb (by rw [HT.out]; rfl), HB0.out⟩
  · have HT := hide (ty_3 (h := h) k)
    show Calls Tryz.prog 55 #[.agg #[.int .i64 x.k, .string x.s, .int .i64 x.n, .slice o x.l.length c], .int .i64 d] w _
    rw [k]
    have HB0 : Hid (Below w.heap.size w (w.alloc (.cells #[.int .i64 3, .string x.s, .int .i64 x.n, .slice o x.l.length c] 81))) := (Below.refl _ w).alloc (Nat.le_refl _) _
    clear k hrow ih hb hlen
    go_enter Tryz.func55, Tryz.ntmps55
    go_wp2
    go_ret2
    exact ⟨ret_strb (by rw [HT.out, ofL_bl]), HB0.out⟩
  · have HT := hide (ty_4 (h := h) k hl)
    have hN2 := tyN_4 (h := h) hl
    have hll : x.l.length = 2 := by rw [hl]; rfl
    rw [hl] at hrow
    obtain ⟨bb, off, rfl, -, hbl, hcs⟩ := hrow (by simp)
    obtain ⟨_, -, kA, rA⟩ := hcs 0 a rfl
    obtain ⟨oa, ga, rfl⟩ := ty_form rA
    obtain ⟨_, -, kB, rB⟩ := hcs 1 b rfl
    obtain ⟨ob, gb, rfl⟩ := ty_form rB
    have la := tyL_len h a _ ha
    have lb := tyL_len h b _ hb2
    have HB0 : Hid (Below w.heap.size w (w.alloc (.cells #[.int .i64 4, .string x.s, .int .i64 x.n, .slice (some ⟨bb, off, none⟩) 2 c] 81))) := (Below.refl _ w).alloc (Nat.le_refl _) _
    have HX0 : Hid ((w.alloc (.cells #[.int .i64 4, .string x.s, .int .i64 x.n, .slice (some ⟨bb, off, none⟩) 2 c] 81)).heap[w.heap.size]? = some (.cells #[.int .i64 4, .string x.s, .int .i64 x.n, .slice (some ⟨bb, off, none⟩) 2 c] 81 (0, 0))) := heap_alloc_new w _
    have a0 := kA 0 _ rfl
    have a1 := kA 1 _ rfl
    have a2 := kA 2 _ rfl
    have a3 := kA 3 _ rfl
    have b0 := kB 0 _ rfl
    have b1 := kB 1 _ rfl
    have b2 := kB 2 _ rfl
    have b3 := kB 3 _ rfl
    simp only [Nat.zero_mul, Nat.one_mul, Nat.add_zero] at a0 a1 a2 a3 b0 b1 b2 b3
    have A0 := (HB0.out.cell (p := ⟨bb, off, none⟩) hbl).trans a0
    have A1 := (HB0.out.cell (p := ⟨bb, off + 1, none⟩) hbl).trans a1
    have A2 := (HB0.out.cell (p := ⟨bb, off + 2, none⟩) hbl).trans a2
    have A3 := (HB0.out.cell (p := ⟨bb, off + 3, none⟩) hbl).trans a3
    have RA := hide rA
    have RB := hide rB
    have IH := hide ih
    have wd : IntKind.i64.wrap (d + 1) = d + 1 := by rw [IntKind.wrap_i64]; omega
    have HA := hide ha
    have HBB := hide hb2
    show Calls Tryz.prog 55 #[.agg #[.int .i64 x.k, .string x.s, .int .i64 x.n, .slice (some ⟨bb, off, none⟩) x.l.length c], .int .i64 d] w _
    rw [k, hll]
    have hNa : tyN h a ≤ 10 := by omega
    have hNb : tyN h b ≤ 10 := by omega
    clear k hl hll hcs kA kB rA rB ih ha hb2 hb hlen hf hl2
    go_enter Tryz.func55, Tryz.ntmps55
    go_wp2_with fail
    refine (IH.out K a _ _ (d + 1) (tyR_later HB0.out h _ _ RA.out) HA.out hNa (by omega)).mono ?_
    rintro e w1 ⟨rfl, hb1⟩
    have HB1 := hide (HB0.out.trans (hb1.mono HB0.out.size))
    have HX1 := hide ((hb1.block w.heap.size (heap_lt HX0.out)).trans HX0.out)
    clear hb1 A0 A1 A2 A3
    have x3 := cell_of HX1.out 3
    simp only [List.getElem?_toArray, List.getElem?_cons_succ, List.getElem?_cons_zero] at x3
    have B0 := (HB1.out.cell (p := ⟨bb, off + 4, none⟩) hbl).trans b0
    have B1 := (HB1.out.cell (p := ⟨bb, off + 4 + 1, none⟩) hbl).trans b1
    have B2 := (HB1.out.cell (p := ⟨bb, off + 4 + 2, none⟩) hbl).trans b2
    have B3 := (HB1.out.cell (p := ⟨bb, off + 4 + 3, none⟩) hbl).trans b3
    go_wp2_with fail
    refine (IH.out K b _ _ (d + 1) (tyR_later HB1.out h _ _ RB.out) HBB.out hNb (by omega)).mono ?_
    rintro e w2 ⟨rfl, hb1⟩
    have HB2 := hide (HB1.out.trans (hb1.mono HB1.out.size))
    have HX2 := hide ((hb1.block w.heap.size (heap_lt HX1.out)).trans HX1.out)
    clear hb1 B0 B1 B2 B3 x3
    have x3 := cell_of HX2.out 3
    simp only [List.getElem?_toArray, List.getElem?_cons_succ, List.getElem?_cons_zero] at x3
    have A0 := (HB2.out.cell (p := ⟨bb, off, none⟩) hbl).trans a0
    have Az : (ofL (tyL h a)).size ≤ 200 := by rw [ofL_size]; omega
    have Bz : (ofL (tyL h b)).size ≤ 200 := by rw [ofL_size]; omega
    by_cases hk4 : a.k = 4
    · have e4 : (a.k == 4) = true := by rw [hk4]; rfl
      have HRES : Hid (⟨#[40]⟩ ++ ofL (tyL h a) ++ ⟨#[41]⟩ ++ ⟨#[32, 45, 62, 32]⟩ ++ ofL (tyL h b) = ofL (tyL (h + 1) x)) := by
        apply eq_ofL
        rw [HT.out]
        unfold tyPL brL
        rw [decide_eq_true hk4]
        simp only [bl_append, bl_ofL, bl_mk, if_true, List.append_assoc, List.cons_append, List.nil_append]
      generalize ofL (tyL h a) = A at HRES Az
      generalize ofL (tyL h b) = B at HRES Bz
      have z1 : (⟨#[40]⟩ ++ A).size = 1 + A.size := app_size _ _
      have z2 : (⟨#[40]⟩ ++ A ++ ⟨#[41]⟩).size = 1 + A.size + 1 := (app_size _ _).trans (by rw [z1]; rfl)
      have z3 : (⟨#[40]⟩ ++ A ++ ⟨#[41]⟩ ++ ⟨#[32, 45, 62, 32]⟩).size = 1 + A.size + 1 + 4 := (app_size _ _).trans (by rw [z2]; rfl)
      clear hk4
      go_wp2
      go_ret2
      exact ⟨ret_strb HRES.out, HB2.out⟩
    · have e4 : (a.k == 4) = false := by simpa using hk4
      have HRES : Hid (ofL (tyL h a) ++ ⟨#[32, 45, 62, 32]⟩ ++ ofL (tyL h b) = ofL (tyL (h + 1) x)) := by
        apply eq_ofL
        rw [HT.out]
        unfold tyPL brL
        rw [decide_eq_false hk4]
        simp only [bl_append, bl_ofL, bl_mk, Bool.false_eq_true, if_false, List.append_assoc, List.cons_append, List.nil_append]
      generalize ofL (tyL h a) = A at HRES Az
      generalize ofL (tyL h b) = B at HRES Bz
      have z1 : (A ++ ⟨#[32, 45, 62, 32]⟩).size = A.size + 4 := app_size _ _
      clear hk4
      go_wp2
      go_ret2
      exact ⟨ret_strb HRES.out, HB2.out⟩
theorem spTy_all (h : Nat) : SpTy h := by
  induction h with
  | zero => exact fun _ _ _ _ _ hr => hr.elim
  | succ h ih => exact spTy_step ih
set_option maxHeartbeats 1000000 in
theorem specTyText_any {K : Nat → Prop} {w : World} {h : Nat} {x : Tr} {cs : List Value} (hr : tyR K w h x cs) (hb : tyB h x 1 = true) (hn : tyN h x ≤ 10) :
    Calls Tryz.prog 27 #[.agg cs.toArray] w fun e w' => e = .returned (.string (ofL (tyL h x))) ∧ Below w.heap.size w w' := by
  obtain ⟨o, c, rfl⟩ := ty_form hr
  have HR := hide hr
  have HB := hide hb
  clear hr hb
  have HB0 : Hid (Below w.heap.size w (w.alloc (.cells #[.int .i64 x.k, .string x.s, .int .i64 x.n, .slice o x.l.length c] 81))) := (Below.refl _ w).alloc (Nat.le_refl _) _
  go_enter Tryz.func27, Tryz.ntmps27
  go_wp2_with fail
  refine (spTy_all h K x _ _ 1 (tyR_later HB0.out h _ _ HR.out) HB.out hn (by omega)).mono ?_
  rintro e w1 ⟨rfl, hb⟩
  have HB1 := hide (HB0.out.trans (hb.mono HB0.out.size))
  clear hb
  go_wp2
  go_ret
  exact ⟨rfl, HB1.out⟩
end Go.Proofs.YteoghpefilghdakGreatDoor
namespace Go.Proofs.YteoghpefilghdakGreatDoor
open Go.ChangeShapes Go.WideShapes Go.ChangeAt Go.RowKit
set_option linter.unusedVariables false
set_option linter.unusedSimpArgs false

theorem args_next (h : Nat) (l : List Tr) (i : Nat) (t : Tr) (ht : l[i]? = some t) : argsL h (l.take (i + 1)) = argsL h (l.take i) ++ (32 :: tyPL h t) := flat_take l i t ht
theorem args_take_len (h : Nat) (l : List Tr) (i : Nat) : (argsL h (l.take i)).length ≤ (argsL h l).length := flat_take_len _ l i
theorem consJ_take_len (h : Nat) (l : List Tr) (i : Nat) : (consJ h (l.take i)).length ≤ (consJ h l).length := by
  unfold consJ
  rw [List.length_drop, List.length_drop]
  have := flat_take_len (fun c => [32, 124, 32] ++ conL h c) l i
  omega
/-- What stands ahead of the makers, and between two of them. -/
def baseL (d : Tr) : List UInt8 := [100, 97, 116, 97, 32] ++ (bl d.s ++ [32, 61, 32])
theorem baseL_len {d : Tr} (h : d.s.size ≤ 8) : (baseL d).length ≤ 16 := by
  unfold baseL
  simp only [List.length_append, List.length_cons, List.length_nil, bl_len]
  omega
theorem data_base (h : Nat) (d : Tr) : dataL h d = baseL d ++ consJ h d.l := by
  unfold dataL baseL
  simp only [List.append_assoc]

set_option maxHeartbeats 4000000 in
set_option maxRecDepth 100000 in
theorem specData_any {K : Nat → Prop} {w : World} {h : Nat} {x : Tr} {cs : List Value} (hr : daR K w h x cs) (hok : DataOk h x) :
    Calls Tryz.prog 12 #[.agg cs.toArray] w fun e w' => e = .returned (.string (ofL (dataL h x))) ∧ Below w.heap.size w w' := by
  obtain ⟨-, -, -, -, -, o, c, rfl, hs, hf, hrow⟩ := hr
  have hl2 : x.l.length ≤ 9223372036854775807 := hf.1
  have hs8 := hok.size
  have HOK := hide hok
  have HROW := hide hrow
  have HB0 : Hid (Below w.heap.size w (w.alloc (.cells #[.string x.s, .slice o x.l.length c] 41))) := (Below.refl _ w).alloc (Nat.le_refl _) _
  have HX0 : Hid ((w.alloc (.cells #[.string x.s, .slice o x.l.length c] 41)).heap[w.heap.size]? = some (.cells #[.string x.s, .slice o x.l.length c] 41 (0, 0))) := heap_alloc_new w _
  have HBASE : Hid (⟨#[100, 97, 116, 97, 32]⟩ ++ x.s ++ ⟨#[32, 61, 32]⟩ = ofL (baseL x)) := by
    apply eq_ofL
    unfold baseL
    simp only [bl_append, bl_mk, List.append_assoc, List.cons_append, List.nil_append]
  have z1 : (⟨#[100, 97, 116, 97, 32]⟩ ++ x.s).size = 5 + x.s.size := app_size _ _
  have hbl := baseL_len hs8
  have hcj := consJ_len hok
  clear hf hrow hok
  go_enter Tryz.func12, Tryz.ntmps12
  go_wp2
  rw [HBASE.out]
  generalize (w.alloc (.cells #[.string x.s, .slice o x.l.length c] 41)) = W at *
  go_loopw [3, 4] (fun t3 t4 wr => ∃ i : Nat, i ≤ x.l.length ∧ t4 = .int .i64 i ∧ t3 = .string (ofL (baseL x ++ consJ h (x.l.take i))) ∧ Below W.heap.size W wr) (fun _ t4 _ => x.l.length - (intOf t4).toNat)
  case atStart => exact ⟨0, Nat.zero_le _, rfl, by simp [consJ], Below.refl _ _⟩
  case round =>
    obtain ⟨i, hi, rfl, rfl, hbw⟩ := hrel
    have HBW := hide hbw
    clear hbw
    have x1 := (HBW.out.cell (p := ⟨w.heap.size, 1, none⟩) (heap_lt HX0.out)).trans (cell_of HX0.out 1)
    simp only [List.getElem?_toArray, List.getElem?_cons_succ, List.getElem?_cons_zero] at x1
    have hz := consJ_take_len h x.l i
    by_cases hlt : i < x.l.length
    · have hne : x.l ≠ [] := by intro e; rw [e] at hlt; simp at hlt
      obtain ⟨y, hy⟩ : ∃ y, x.l[i]? = some y := ⟨x.l[i], List.getElem?_eq_getElem hlt⟩
      have HWR := hide (HB0.out.trans (HBW.out.mono HB0.out.size))
      obtain ⟨b, off, eo, -, hbb, hcs⟩ := (HROW.out.later HWR.out (coR_later HWR.out h)) hne
      subst eo
      obtain ⟨cs, hlc, hkey, hrd⟩ := hcs i y hy
      have hco := HOK.out.cons y (List.mem_of_getElem? hy)
      obtain ⟨-, -, -, -, -, oc, cc, rfl, -, hfc, hrc⟩ := hrd
      have q0 := hkey 0 _ rfl
      have q1 := hkey 1 _ rfl
      rw [Nat.add_zero] at q0
      have hlt2 : (i : Int) < x.l.length := by omega
      have hys := hco.size
      have hal := argsL_len hco
      have hcn := consJ_next h x.l i y hy
      have HCO := hide hco
      have HRC := hide hrc
      have hcl : y.l.length ≤ 9223372036854775807 := hfc.1
      obtain ⟨T, hT⟩ : ∃ T : List UInt8, T = baseL x ++ (if i = 0 then bl y.s else consJ h (x.l.take i) ++ ([32, 124, 32] ++ bl y.s)) := ⟨_, rfl⟩
      have HNX : Hid (∀ l, T ++ argsL h l = baseL x ++ (if i = 0 then bl y.s ++ argsL h l else consJ h (x.l.take i) ++ ([32, 124, 32] ++ (bl y.s ++ argsL h l)))) := by
        intro l
        rw [hT]
        split <;> simp only [List.append_assoc]
      have HCN : Hid (baseL x ++ consJ h (x.l.take (i + 1)) = T ++ argsL h y.l) := by
        rw [HNX.out, hcn]
        unfold conL
        rfl
      have hTl : T.length ≤ 4100 := by
        rw [hT]
        split <;> simp only [List.length_append, List.length_cons, List.length_nil, bl_len] <;> omega
      have Sz : (ofL (baseL x ++ consJ h (x.l.take i))).size ≤ 4011 := by rw [ofL_size, List.length_append]; omega
      clear hcs hy hne hkey hlc hrc hfc hco hcn
      have hxlt : w.heap.size < wr.heap.size := Nat.lt_of_lt_of_le (heap_lt HX0.out) HBW.out.size
      by_cases h0 : i = 0
      · have hT0 : ofL (baseL x ++ consJ h (x.l.take i)) ++ y.s = ofL T := by
          apply eq_ofL
          rw [hT, if_pos h0, h0]
          simp [bl_append, bl_ofL, consJ]
        have HT0 := hide hT0
        have h02 : ¬ (0 : Int) < i := by omega
        generalize ofL (baseL x ++ consJ h (x.l.take i)) = S at HT0 Sz ⊢
        clear hT0 hT h0
        go_wp2
        rw [HT0.out]
        generalize wr = V at *
        go_loopw [3, 5] (fun t3 t5 wr => ∃ k : Nat, k ≤ y.l.length ∧ t5 = .int .i64 k ∧ t3 = .string (ofL (T ++ argsL h (y.l.take k))) ∧ Below V.heap.size V wr) (fun _ t5 _ => y.l.length - (intOf t5).toNat)
        case atStart => exact ⟨0, Nat.zero_le _, rfl, by simp [argsL], Below.refl _ _⟩
        case round =>
          obtain ⟨k, hk, rfl, rfl, hbq⟩ := hrel
          have HBQ := hide hbq
          clear hbq
          have X1 := (HBQ.out.cell (p := ⟨w.heap.size, 1, none⟩) hxlt).trans x1
          have Q1 := (HBQ.out.cell (p := ⟨b, off + i * 2 + 1, none⟩) hbb).trans q1
          have hta := args_take_len h y.l k
          have Tz : (ofL (T ++ argsL h (y.l.take k))).size ≤ 4888 := by rw [ofL_size, List.length_append]; omega
          by_cases hkl : k < y.l.length
          · have hne : y.l ≠ [] := by intro e; rw [e] at hkl; simp at hkl
            obtain ⟨t, ht⟩ : ∃ t, y.l[k]? = some t := ⟨y.l[k], List.getElem?_eq_getElem hkl⟩
            obtain ⟨b2, off2, eo, -, hb2, hcs2⟩ := (HRC.out.later HBQ.out (tyR_later HBQ.out h)) hne
            subst eo
            obtain ⟨_, -, tk, tr⟩ := hcs2 k t ht
            obtain ⟨ot, gt, rfl⟩ := ty_form tr
            have t0 := tk 0 _ rfl
            have t1 := tk 1 _ rfl
            have t2 := tk 2 _ rfl
            have t3 := tk 3 _ rfl
            rw [Nat.add_zero] at t0
            have hto := HCO.out.args t (List.mem_of_getElem? ht)
            have htl := tyL_len h t 1 hto.1
            have han := args_next h y.l k t ht
            have HTR := hide tr
            have HA0 : Hid (Below wr.heap.size wr (wr.alloc (.cells #[.int .i64 t.k, .string t.s, .int .i64 t.n, .slice ot t.l.length gt] 81))) := (Below.refl _ wr).alloc (Nat.le_refl _) _
            have hkl2 : (k : Int) < y.l.length := by omega
            have Lz : (ofL (tyL h t)).size ≤ 200 := by rw [ofL_size]; omega
            have CALL := hide (specTyText_any (tyR_later HA0.out h _ _ HTR.out) hto.1 hto.2)
            by_cases hk4 : t.k = 4
            · have e4 : (t.k == 4) = true := by rw [hk4]; rfl
              have HRES : Hid (ofL (T ++ argsL h (y.l.take k)) ++ ⟨#[32, 40]⟩ ++ ofL (tyL h t) ++ ⟨#[41]⟩ = ofL (T ++ argsL h (y.l.take (k + 1)))) := by
                apply eq_ofL
                rw [han]
                unfold tyPL brL
                rw [decide_eq_true hk4]
                simp only [bl_append, bl_ofL, bl_mk, if_true, List.append_assoc, List.cons_append, List.nil_append]
              generalize ofL (T ++ argsL h (y.l.take k)) = P at HRES Tz ⊢
              generalize ofL (tyL h t) = L at HRES Lz CALL
              have y1 : (P ++ ⟨#[32, 40]⟩).size = P.size + 2 := app_size _ _
              have y2 : (P ++ ⟨#[32, 40]⟩ ++ L).size = P.size + 2 + L.size := (app_size _ _).trans (by rw [y1])
              clear hcs2 tk tr hne hto htl han ht hk4
              go_wp2_with fail
              refine CALL.out.mono ?_
              rintro e w3 ⟨rfl, hb3⟩
              have HB3 := hide (HBQ.out.trans ((HA0.out.trans (hb3.mono HA0.out.size)).mono HBQ.out.size))
              clear hb3
              go_wp2
              exact ⟨⟨k + 1, by omega, by go_num, by rw [HRES.out], HB3.out⟩, by simp [intOf]; omega⟩
            · have e4 : (t.k == 4) = false := by simpa using hk4
              have HRES : Hid (ofL (T ++ argsL h (y.l.take k)) ++ ⟨#[32]⟩ ++ ofL (tyL h t) = ofL (T ++ argsL h (y.l.take (k + 1)))) := by
                apply eq_ofL
                rw [han]
                unfold tyPL brL
                rw [decide_eq_false hk4]
                simp only [bl_append, bl_ofL, bl_mk, Bool.false_eq_true, if_false, List.append_assoc, List.cons_append, List.nil_append]
              generalize ofL (T ++ argsL h (y.l.take k)) = P at HRES Tz ⊢
              generalize ofL (tyL h t) = L at HRES Lz CALL
              have y1 : (P ++ ⟨#[32]⟩).size = P.size + 1 := app_size _ _
              clear hcs2 tk tr hne hto htl han ht hk4
              go_wp2_with fail
              refine CALL.out.mono ?_
              rintro e w3 ⟨rfl, hb3⟩
              have HB3 := hide (HBQ.out.trans ((HA0.out.trans (hb3.mono HA0.out.size)).mono HBQ.out.size))
              clear hb3
              go_wp2
              exact ⟨⟨k + 1, by omega, by go_num, by rw [HRES.out], HB3.out⟩, by simp [intOf]; omega⟩
          · have hkl2 : ¬ (k : Int) < y.l.length := by omega
            have hkn : k = y.l.length := by omega
            have HFIN : Hid (ofL (T ++ argsL h (y.l.take k)) = ofL (baseL x ++ consJ h (x.l.take (i + 1)))) := by
              
              show ofL (T ++ argsL h (y.l.take k)) = _
              rw [hkn, List.take_length, HCN.out]
            generalize ofL (T ++ argsL h (y.l.take k)) = P at HFIN Tz ⊢
            clear hkn
            go_wp2
            exact ⟨⟨i + 1, by omega, by go_num, by rw [HFIN.out], HBW.out.trans (HBQ.out.mono HBW.out.size)⟩, by simp [intOf]; omega⟩
      · have hT0 : ofL (baseL x ++ consJ h (x.l.take i)) ++ ⟨#[32, 124, 32]⟩ ++ y.s = ofL T := by
          apply eq_ofL
          rw [hT, if_neg h0]
          simp only [bl_append, bl_ofL, bl_mk, List.append_assoc, List.cons_append, List.nil_append]
        have HT0 := hide hT0
        have h02 : (0 : Int) < i := by omega
        have h03 : 0 < i := by omega
        have h04 : decide (0 < i) = true := decide_eq_true h03
        generalize ofL (baseL x ++ consJ h (x.l.take i)) = S at HT0 Sz ⊢
        have z2 : (S ++ ⟨#[32, 124, 32]⟩).size = S.size + 3 := app_size _ _
        clear hT0 hT h0
        go_wp2
        rw [HT0.out]
        generalize wr = V at *
        go_loopw [3, 5] (fun t3 t5 wr => ∃ k : Nat, k ≤ y.l.length ∧ t5 = .int .i64 k ∧ t3 = .string (ofL (T ++ argsL h (y.l.take k))) ∧ Below V.heap.size V wr) (fun _ t5 _ => y.l.length - (intOf t5).toNat)
        case atStart => exact ⟨0, Nat.zero_le _, rfl, by simp [argsL], Below.refl _ _⟩
        case round =>
          obtain ⟨k, hk, rfl, rfl, hbq⟩ := hrel
          have HBQ := hide hbq
          clear hbq
          have X1 := (HBQ.out.cell (p := ⟨w.heap.size, 1, none⟩) hxlt).trans x1
          have Q1 := (HBQ.out.cell (p := ⟨b, off + i * 2 + 1, none⟩) hbb).trans q1
          have hta := args_take_len h y.l k
          have Tz : (ofL (T ++ argsL h (y.l.take k))).size ≤ 4888 := by rw [ofL_size, List.length_append]; omega
          by_cases hkl : k < y.l.length
          · have hne : y.l ≠ [] := by intro e; rw [e] at hkl; simp at hkl
            obtain ⟨t, ht⟩ : ∃ t, y.l[k]? = some t := ⟨y.l[k], List.getElem?_eq_getElem hkl⟩
            obtain ⟨b2, off2, eo, -, hb2, hcs2⟩ := (HRC.out.later HBQ.out (tyR_later HBQ.out h)) hne
            subst eo
            obtain ⟨_, -, tk, tr⟩ := hcs2 k t ht
            obtain ⟨ot, gt, rfl⟩ := ty_form tr
            have t0 := tk 0 _ rfl
            have t1 := tk 1 _ rfl
            have t2 := tk 2 _ rfl
            have t3 := tk 3 _ rfl
            rw [Nat.add_zero] at t0
            have hto := HCO.out.args t (List.mem_of_getElem? ht)
            have htl := tyL_len h t 1 hto.1
            have han := args_next h y.l k t ht
            have HTR := hide tr
            have HA0 : Hid (Below wr.heap.size wr (wr.alloc (.cells #[.int .i64 t.k, .string t.s, .int .i64 t.n, .slice ot t.l.length gt] 81))) := (Below.refl _ wr).alloc (Nat.le_refl _) _
            have hkl2 : (k : Int) < y.l.length := by omega
            have Lz : (ofL (tyL h t)).size ≤ 200 := by rw [ofL_size]; omega
            have CALL := hide (specTyText_any (tyR_later HA0.out h _ _ HTR.out) hto.1 hto.2)
            by_cases hk4 : t.k = 4
            · have e4 : (t.k == 4) = true := by rw [hk4]; rfl
              have HRES : Hid (ofL (T ++ argsL h (y.l.take k)) ++ ⟨#[32, 40]⟩ ++ ofL (tyL h t) ++ ⟨#[41]⟩ = ofL (T ++ argsL h (y.l.take (k + 1)))) := by
                apply eq_ofL
                rw [han]
                unfold tyPL brL
                rw [decide_eq_true hk4]
                simp only [bl_append, bl_ofL, bl_mk, if_true, List.append_assoc, List.cons_append, List.nil_append]
              generalize ofL (T ++ argsL h (y.l.take k)) = P at HRES Tz ⊢
              generalize ofL (tyL h t) = L at HRES Lz CALL
              have y1 : (P ++ ⟨#[32, 40]⟩).size = P.size + 2 := app_size _ _
              have y2 : (P ++ ⟨#[32, 40]⟩ ++ L).size = P.size + 2 + L.size := (app_size _ _).trans (by rw [y1])
              clear hcs2 tk tr hne hto htl han ht hk4
              go_wp2_with fail
              refine CALL.out.mono ?_
              rintro e w3 ⟨rfl, hb3⟩
              have HB3 := hide (HBQ.out.trans ((HA0.out.trans (hb3.mono HA0.out.size)).mono HBQ.out.size))
              clear hb3
              go_wp2
              exact ⟨⟨k + 1, by omega, by go_num, by rw [HRES.out], HB3.out⟩, by simp [intOf]; omega⟩
            · have e4 : (t.k == 4) = false := by simpa using hk4
              have HRES : Hid (ofL (T ++ argsL h (y.l.take k)) ++ ⟨#[32]⟩ ++ ofL (tyL h t) = ofL (T ++ argsL h (y.l.take (k + 1)))) := by
                apply eq_ofL
                rw [han]
                unfold tyPL brL
                rw [decide_eq_false hk4]
                simp only [bl_append, bl_ofL, bl_mk, Bool.false_eq_true, if_false, List.append_assoc, List.cons_append, List.nil_append]
              generalize ofL (T ++ argsL h (y.l.take k)) = P at HRES Tz ⊢
              generalize ofL (tyL h t) = L at HRES Lz CALL
              have y1 : (P ++ ⟨#[32]⟩).size = P.size + 1 := app_size _ _
              clear hcs2 tk tr hne hto htl han ht hk4
              go_wp2_with fail
              refine CALL.out.mono ?_
              rintro e w3 ⟨rfl, hb3⟩
              have HB3 := hide (HBQ.out.trans ((HA0.out.trans (hb3.mono HA0.out.size)).mono HBQ.out.size))
              clear hb3
              go_wp2
              exact ⟨⟨k + 1, by omega, by go_num, by rw [HRES.out], HB3.out⟩, by simp [intOf]; omega⟩
          · have hkl2 : ¬ (k : Int) < y.l.length := by omega
            have hkn : k = y.l.length := by omega
            have HFIN : Hid (ofL (T ++ argsL h (y.l.take k)) = ofL (baseL x ++ consJ h (x.l.take (i + 1)))) := by
              
              show ofL (T ++ argsL h (y.l.take k)) = _
              rw [hkn, List.take_length, HCN.out]
            generalize ofL (T ++ argsL h (y.l.take k)) = P at HFIN Tz ⊢
            clear hkn
            go_wp2
            exact ⟨⟨i + 1, by omega, by go_num, by rw [HFIN.out], HBW.out.trans (HBQ.out.mono HBW.out.size)⟩, by simp [intOf]; omega⟩
    · have hlt2 : ¬ (i : Int) < x.l.length := by omega
      have hin : i = x.l.length := by omega
      subst hin
      go_wp2
      go_ret
      exact ⟨ret_str (by first | (rw [data_base]; done) | (rw [data_base, List.take_length])), HB0.out.trans (HBW.out.mono HB0.out.size)⟩
end Go.Proofs.YteoghpefilghdakGreatDoor
namespace Go.Proofs.YteoghpefilghdakGreatDoor
open Go.ChangeShapes Go.WideShapes Go.ChangeAt Go.RowKit
set_option linter.unusedVariables false
set_option linter.unusedSimpArgs false

def progT (h : Nat) (x : Tr) : List UInt8 := if progB h x = true then progL h x else []
theorem datas_next (h : Nat) (l : List Tr) (i : Nat) (d : Tr) (hd : l[i]? = some d) : datasL h (l.take (i + 1)) = datasL h (l.take i) ++ (dataL h d ++ [10]) := flat_take l i d hd
theorem datas_take_len (h : Nat) (l : List Tr) (i : Nat) : (datasL h (l.take i)).length ≤ (datasL h l).length := flat_take_len _ l i
theorem tops_next (h : Nat) (l : List Tr) (i : Nat) (d : Tr) (hd : l[i]? = some d) : topsL h (l.take (i + 1)) = topsL h (l.take i) ++ ((txt h).de d 0 ++ [10]) := flat_take l i d hd
theorem tops_take_len (h : Nat) (l : List Tr) (i : Nat) : (topsL h (l.take i)).length ≤ (topsL h l).length := flat_take_len _ l i

set_option maxHeartbeats 4000000 in
set_option maxRecDepth 100000 in
theorem specProgText_any {K : Nat → Prop} {w : World} {h : Nat} {x : Tr} {cs : List Value} (hr : prR K w h x cs) (hN : (consL x.l).length ≤ 1048576) :
    Calls Tryz.prog 5 #[.agg cs.toArray] w fun e w' => e = .returned (.string (ofL (progT h x))) ∧ Below w.heap.size w w' := by
  have HR := hide hr
  obtain ⟨-, -, -, -, -, o1, c1, o2, c2, rfl, hl, hd, q1, q2⟩ := hr
  have hl2 : x.l.length ≤ 9223372036854775807 := hl.1
  have hd2 : x.ds.length ≤ 9223372036854775807 := hd.1
  have R1 := hide q1
  have R2 := hide q2
  have HB0 : Hid (Below w.heap.size w (w.alloc (.cells #[.slice o1 x.l.length c1, .slice o2 x.ds.length c2] 31))) := (Below.refl _ w).alloc (Nat.le_refl _) _
  have HX0 : Hid ((w.alloc (.cells #[.slice o1 x.l.length c1, .slice o2 x.ds.length c2] 31)).heap[w.heap.size]? = some (.cells #[.slice o1 x.l.length c1, .slice o2 x.ds.length c2] 31 (0, 0))) := heap_alloc_new w _
  have CALL := hide (specProgOk_any (prR_later HB0.out h _ _ HR.out) hN)
  clear hl hd q1 q2
  cases hb : progB h x
  · have HPB := hide hb
    clear hb
    go_enter Tryz.func5, Tryz.ntmps5
    go_wp2_with fail
    refine CALL.out.mono ?_
    rintro e w1 ⟨rfl, hb⟩
    rw [HPB.out]
    have HB1 := hide (HB0.out.trans (hb.mono HB0.out.size))
    clear hb
    go_wp2
    go_ret
    exact ⟨ret_str (by unfold progT; rw [HPB.out]; rfl), HB1.out⟩
  · have HPB := hide hb
    have POK := hide (prog_of hb)
    have hdl := datasL_len (prog_of hb)
    have htl := topsL_len (h := h) o2 x.ds R2.out (prog_of hb).decs.2
    have htc := (prog_of hb).cnt
    clear hb
    go_enter Tryz.func5, Tryz.ntmps5
    go_wp2_with fail
    refine CALL.out.mono ?_
    rintro e W ⟨rfl, hb⟩
    rw [HPB.out]
    have HW := hide (HB0.out.trans (hb.mono HB0.out.size))
    have HX := hide ((hb.block w.heap.size (heap_lt HX0.out)).trans HX0.out)
    clear hb CALL
    go_wp2
    go_loopw [3, 4] (fun t3 t4 wr => ∃ i : Nat, i ≤ x.l.length ∧ t4 = .int .i64 i ∧ t3 = .string (ofL (datasL h (x.l.take i))) ∧ Below W.heap.size W wr) (fun _ t4 _ => x.l.length - (intOf t4).toNat)
    case atStart => exact ⟨0, Nat.zero_le _, rfl, rfl, Below.refl _ _⟩
    case round =>
      obtain ⟨i, hi, rfl, rfl, hbw⟩ := hrel
      have HBW := hide hbw
      clear hbw
      have x0 := (HBW.out.cell (p := ⟨w.heap.size, 0, none⟩) (heap_lt HX.out)).trans (cell_of HX.out 0)
      have x1 := (HBW.out.cell (p := ⟨w.heap.size, 1, none⟩) (heap_lt HX.out)).trans (cell_of HX.out 1)
      simp only [List.getElem?_toArray, List.getElem?_cons_succ, List.getElem?_cons_zero] at x0 x1
      have htk := datas_take_len h x.l i
      have HWR := hide (HW.out.trans (HBW.out.mono HW.out.size))
      by_cases hlt : i < x.l.length
      · have hne : x.l ≠ [] := by intro e; rw [e] at hlt; simp at hlt
        obtain ⟨y, hy⟩ : ∃ y, x.l[i]? = some y := ⟨x.l[i], List.getElem?_eq_getElem hlt⟩
        obtain ⟨b, off, eo, -, hbb, hcs⟩ := (R1.out.later HWR.out (daR_later HWR.out h)) hne
        subst eo
        obtain ⟨cs, hlc, hkey, hrd⟩ := hcs i y hy
        have hdo := POK.out.datas y (List.mem_of_getElem? hy)
        obtain ⟨oy, cy, rfl⟩ := da_form hrd
        have y0 := hkey 0 _ rfl
        have y1 := hkey 1 _ rfl
        rw [Nat.add_zero] at y0
        have DCALL := hide (specData_any hrd hdo)
        have hln := dataL_len hdo
        have HNX : Hid (ofL (datasL h (x.l.take i)) ++ ofL (dataL h y) ++ ⟨#[10]⟩ = ofL (datasL h (x.l.take (i + 1)))) := by
          apply eq_ofL
          rw [datas_next h x.l i y hy]
          simp only [bl_append, bl_ofL, bl_mk, List.append_assoc]
        have Sz : (ofL (datasL h (x.l.take i))).size ≤ 21000 := by rw [ofL_size]; omega
        have Dz : (ofL (dataL h y)).size ≤ 4100 := by rw [ofL_size]; omega
        generalize ofL (datasL h (x.l.take i)) = S at HNX Sz ⊢
        generalize ofL (dataL h y) = D at HNX Dz DCALL
        have z1 : (S ++ D).size = S.size + D.size := app_size _ _
        have hlt2 : (i : Int) < x.l.length := by omega
        clear hcs hkey hlc hrd hdo hy hne
        go_wp2_with fail
        refine DCALL.out.mono ?_
        rintro e w2 ⟨rfl, hb⟩
        have HB2 := hide (HBW.out.trans (hb.mono HBW.out.size))
        clear hb
        go_wp2
        exact ⟨⟨i + 1, by omega, by go_num, by rw [HNX.out], HB2.out⟩, by simp [intOf]; omega⟩
      · have hlt2 : ¬ (i : Int) < x.l.length := by omega
        have hin : i = x.l.length := by omega
        subst hin
        have HS0 : Hid (ofL (datasL h (x.l.take x.l.length)) = ofL (datasL h x.l)) := by
          show ofL (datasL h (x.l.take x.l.length)) = _
          rw [List.take_length]
        go_wp2
        try rw [HS0.out]
        generalize wr = V at *
        go_loopw [3, 5] (fun t3 t5 wr => ∃ i : Nat, i ≤ x.ds.length ∧ t5 = .int .i64 i ∧ t3 = .string (ofL (datasL h x.l ++ topsL h (x.ds.take i))) ∧ Below V.heap.size V wr) (fun _ t5 _ => x.ds.length - (intOf t5).toNat)
        case atStart => exact ⟨0, Nat.zero_le _, rfl, by simp [topsL], Below.refl _ _⟩
        case round =>
          obtain ⟨k, hk, rfl, rfl, hbq⟩ := hrel
          have HBQ := hide hbq
          clear hbq
          have X1 := (HBQ.out.cell (p := ⟨w.heap.size, 1, none⟩) (Nat.lt_of_lt_of_le (heap_lt HX.out) HBW.out.size)).trans x1
          have htk2 := tops_take_len h x.ds k
          have HWQ := hide (HWR.out.trans (HBQ.out.mono HWR.out.size))
          by_cases hkl : k < x.ds.length
          · have hne : x.ds ≠ [] := by intro e; rw [e] at hkl; simp at hkl
            obtain ⟨y, hy⟩ : ∃ y, x.ds[k]? = some y := ⟨x.ds[k], List.getElem?_eq_getElem hkl⟩
            obtain ⟨b, off, eo, -, hbb, hcs⟩ := (R2.out.later HWQ.out (reads_later HWQ.out h).2.1) hne
            subst eo
            obtain ⟨cs, hlc, hkey, hrd⟩ := hcs k y hy
            have hdo := POK.out.decs.2 y (List.mem_of_getElem? hy)
            have hcy : (cnt h).de y ≤ 200 := Nat.le_trans (part_sum hy) htc
            obtain ⟨z, o0, c0, p1, g1, p2, g2, p3, g3, p4, g4, rfl⟩ := de_form hrd
            have y0 := hkey 0 _ rfl
            have y1 := hkey 1 _ rfl
            have y2 := hkey 2 _ rfl
            have y3 := hkey 3 _ rfl
            have y4 := hkey 4 _ rfl
            have y5 := hkey 5 _ rfl
            have y6 := hkey 6 _ rfl
            have y7 := hkey 7 _ rfl
            have y8 := hkey 8 _ rfl
            rw [Nat.add_zero] at y0
            have hly := (txt_len K wr h).de y _ 0 0 hrd hdo (by omega)
            have DCALL := hide ((sp_all h).2.1 K y _ wr 0 0 hrd hdo (by omega) hcy)
            have HNX : Hid (ofL (datasL h x.l ++ topsL h (x.ds.take k)) ++ ofL (padL 0 ++ (txt h).de y 0) ++ ⟨#[10]⟩ = ofL (datasL h x.l ++ topsL h (x.ds.take (k + 1)))) := by
              apply eq_ofL
              rw [tops_next h x.ds k y hy]
              have hp : padL 0 = [] := rfl
              simp only [bl_append, bl_ofL, bl_mk, hp, List.nil_append, List.append_assoc]
            have Sz : (ofL (datasL h x.l ++ topsL h (x.ds.take k))).size ≤ 221000 := by rw [ofL_size, List.length_append]; omega
            have Dz : (ofL (padL 0 ++ (txt h).de y 0)).size ≤ 200000 := by
              rw [ofL_size, List.length_append, padL_len]
              omega
            generalize ofL (datasL h x.l ++ topsL h (x.ds.take k)) = S at HNX Sz ⊢
            generalize ofL (padL 0 ++ (txt h).de y 0) = D at HNX Dz DCALL
            have z1 : (S ++ D).size = S.size + D.size := app_size _ _
            have hkl2 : (k : Int) < x.ds.length := by omega
            clear hcs hkey hlc hrd hdo hy hne
            go_wp2_with fail
            refine DCALL.out.mono ?_
            rintro e w2 ⟨rfl, hb⟩
            have HB2 := hide (HBQ.out.trans (hb.mono HBQ.out.size))
            clear hb
            go_wp2
            exact ⟨⟨k + 1, by omega, by go_num, by rw [HNX.out], HB2.out⟩, by simp [intOf]; omega⟩
          · have hkl2 : ¬ (k : Int) < x.ds.length := by omega
            have hkn : k = x.ds.length := by omega
            subst hkn
            have HFIN : Hid (ofL (datasL h x.l ++ topsL h (x.ds.take x.ds.length)) = ofL (progT h x)) := by
              show ofL (datasL h x.l ++ topsL h (x.ds.take x.ds.length)) = _
              rw [List.take_length]
              unfold progT
              rw [HPB.out]
              rfl
            generalize ofL (datasL h x.l ++ topsL h (x.ds.take x.ds.length)) = S at HFIN ⊢
            go_wp2
            go_ret
            exact ⟨ret_str HFIN.out, HWQ.out⟩
end Go.Proofs.YteoghpefilghdakGreatDoor
