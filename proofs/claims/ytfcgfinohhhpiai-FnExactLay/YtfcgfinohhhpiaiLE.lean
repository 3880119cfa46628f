/- What a sign needs, and what it opens, in the model. -/
import Derived.Test.YtfcgfinohhhpiaiLD
namespace Go.Proofs.Ytfcgfinohhhpiai
open Go.RowKit

set_option maxHeartbeats 2000000 in
set_option maxRecDepth 100000 in
theorem l2Needs_any (t : TokZ) (w : World) :
    Calls Try.prog 88 #[aggZ t] w fun e w' => e = .returned (.int .i64 (needZ t)) ∧ Below w.heap.size w w' := by
  have HX0 : Hid ((w.alloc (.cells #[.int .i64 t.k, .string t.s, .int .i64 t.l, .int .i64 t.c] 70)).heap[w.heap.size]? = some (.cells #[.int .i64 t.k, .string t.s, .int .i64 t.l, .int .i64 t.c] 70 (0, 0))) := heap_alloc_new w _
  have HB0 : Hid (Below w.heap.size w (w.alloc (.cells #[.int .i64 t.k, .string t.s, .int .i64 t.l, .int .i64 t.c] 70))) := (Below.refl _ w).alloc (Nat.le_refl _) _
  unfold aggZ
  go_enter Try.func88, Try.ntmps88
  go_wp2_with fail
  rw [tok_eta2]
  refine (is_any t 5 ⟨#[41]⟩ _).mono ?_
  rintro e w1 ⟨rfl, hb⟩
  have HX1 := hide ((hb.block w.heap.size (heap_lt HX0.out)).trans HX0.out)
  have HB1 := hide (HB0.out.trans (hb.mono HB0.out.size))
  clear hb
  have c0 := cell_of HX1.out 0
  have c1 := cell_of HX1.out 1
  have c2 := cell_of HX1.out 2
  have c3 := cell_of HX1.out 3
  simp only [List.getElem?_toArray, List.getElem?_cons_succ, List.getElem?_cons_zero] at c0 c1 c2 c3
  cases hI : isB t 5 ⟨#[41]⟩
  rotate_left
  · have HI1 := hide hI
    clear hI
    go_wp2
    go_ret
    exact ⟨by unfold needZ; rw [HI1.out]; rfl, HB1.out⟩
  have HI1 := hide hI
  clear hI
  go_wp2_with fail
  rw [tok_eta2]
  refine (is_any t 4 ⟨#[105, 110]⟩ _).mono ?_
  rintro e w2 ⟨rfl, hb⟩
  have HX2 := hide ((hb.block w.heap.size (heap_lt HX1.out)).trans HX1.out)
  have HB2 := hide (HB1.out.trans (hb.mono HB1.out.size))
  clear hb
  have c0 := cell_of HX2.out 0
  have c1 := cell_of HX2.out 1
  have c2 := cell_of HX2.out 2
  have c3 := cell_of HX2.out 3
  simp only [List.getElem?_toArray, List.getElem?_cons_succ, List.getElem?_cons_zero] at c0 c1 c2 c3
  cases hI : isB t 4 ⟨#[105, 110]⟩
  rotate_left
  · have HI2 := hide hI
    clear hI
    go_wp2
    go_ret
    exact ⟨by unfold needZ; rw [HI1.out, HI2.out]; rfl, HB2.out⟩
  have HI2 := hide hI
  clear hI
  go_wp2_with fail
  rw [tok_eta2]
  refine (is_any t 4 ⟨#[116, 104, 101, 110]⟩ _).mono ?_
  rintro e w3 ⟨rfl, hb⟩
  have HX3 := hide ((hb.block w.heap.size (heap_lt HX2.out)).trans HX2.out)
  have HB3 := hide (HB2.out.trans (hb.mono HB2.out.size))
  clear hb
  have c0 := cell_of HX3.out 0
  have c1 := cell_of HX3.out 1
  have c2 := cell_of HX3.out 2
  have c3 := cell_of HX3.out 3
  simp only [List.getElem?_toArray, List.getElem?_cons_succ, List.getElem?_cons_zero] at c0 c1 c2 c3
  cases hI : isB t 4 ⟨#[116, 104, 101, 110]⟩
  rotate_left
  · have HI3 := hide hI
    clear hI
    go_wp2
    go_ret
    exact ⟨by unfold needZ; rw [HI1.out, HI2.out, HI3.out]; rfl, HB3.out⟩
  have HI3 := hide hI
  clear hI
  go_wp2_with fail
  rw [tok_eta2]
  refine (is_any t 4 ⟨#[101, 108, 115, 101]⟩ _).mono ?_
  rintro e w4 ⟨rfl, hb⟩
  have HX4 := hide ((hb.block w.heap.size (heap_lt HX3.out)).trans HX3.out)
  have HB4 := hide (HB3.out.trans (hb.mono HB3.out.size))
  clear hb
  have c0 := cell_of HX4.out 0
  have c1 := cell_of HX4.out 1
  have c2 := cell_of HX4.out 2
  have c3 := cell_of HX4.out 3
  simp only [List.getElem?_toArray, List.getElem?_cons_succ, List.getElem?_cons_zero] at c0 c1 c2 c3
  cases hI : isB t 4 ⟨#[101, 108, 115, 101]⟩
  rotate_left
  · have HI4 := hide hI
    clear hI
    go_wp2
    go_ret
    exact ⟨by unfold needZ; rw [HI1.out, HI2.out, HI3.out, HI4.out]; rfl, HB4.out⟩
  have HI4 := hide hI
  clear hI
  go_wp2_with fail
  rw [tok_eta2]
  refine (is_any t 4 ⟨#[111, 102]⟩ _).mono ?_
  rintro e w5 ⟨rfl, hb⟩
  have HX5 := hide ((hb.block w.heap.size (heap_lt HX4.out)).trans HX4.out)
  have HB5 := hide (HB4.out.trans (hb.mono HB4.out.size))
  clear hb
  have c0 := cell_of HX5.out 0
  have c1 := cell_of HX5.out 1
  have c2 := cell_of HX5.out 2
  have c3 := cell_of HX5.out 3
  simp only [List.getElem?_toArray, List.getElem?_cons_succ, List.getElem?_cons_zero] at c0 c1 c2 c3
  cases hI : isB t 4 ⟨#[111, 102]⟩
  rotate_left
  · have HI5 := hide hI
    clear hI
    go_wp2
    go_ret
    exact ⟨by unfold needZ; rw [HI1.out, HI2.out, HI3.out, HI4.out, HI5.out]; rfl, HB5.out⟩
  have HI5 := hide hI
  clear hI
  go_wp2_with fail
  rw [tok_eta2]
  refine (is_any t 5 ⟨#[125]⟩ _).mono ?_
  rintro e w6 ⟨rfl, hb⟩
  have HX6 := hide ((hb.block w.heap.size (heap_lt HX5.out)).trans HX5.out)
  have HB6 := hide (HB5.out.trans (hb.mono HB5.out.size))
  clear hb
  have c0 := cell_of HX6.out 0
  have c1 := cell_of HX6.out 1
  have c2 := cell_of HX6.out 2
  have c3 := cell_of HX6.out 3
  simp only [List.getElem?_toArray, List.getElem?_cons_succ, List.getElem?_cons_zero] at c0 c1 c2 c3
  cases hI : isB t 5 ⟨#[125]⟩
  rotate_left
  · have HI6 := hide hI
    clear hI
    go_wp2
    go_ret
    exact ⟨by unfold needZ; rw [HI1.out, HI2.out, HI3.out, HI4.out, HI5.out, HI6.out]; rfl, HB6.out⟩
  have HI6 := hide hI
  clear hI
  go_wp2
  go_ret
  exact ⟨by unfold needZ; rw [HI1.out, HI2.out, HI3.out, HI4.out, HI5.out, HI6.out]; rfl, HB6.out⟩

/-- A list of numbers that was just laid. -/
theorem opens_leaf {t : TokZ} {w w1 : World} {l : List Int} (h : l = opensZ t) (hb : Below w.heap.size w w1) :
    ∃ v, (Ending.returned (.slice (some ⟨w1.heap.size, 0, none⟩) l.length l.length) = .returned v) ∧ (∃ b, v = .slice (some ⟨b, 0, none⟩) (opensZ t).length (opensZ t).length ∧ w.heap.size ≤ b ∧ (w1.alloc (.cells (l.map fun n => .int .i64 n).toArray 3)).heap[b]? = some (.cells ((opensZ t).map fun n => .int .i64 n).toArray 3 (0, 0))) ∧ Below w.heap.size w (w1.alloc (.cells (l.map fun n => .int .i64 n).toArray 3)) := by
  subst h
  exact ⟨_, rfl, ⟨w1.heap.size, rfl, hb.size, heap_alloc_new w1 _⟩, hb.alloc hb.size _⟩

set_option maxHeartbeats 2000000 in
set_option maxRecDepth 100000 in
theorem l2Opens_any (t : TokZ) (w : World) :
    Calls Try.prog 91 #[aggZ t] w fun e w' => ∃ v, e = .returned v ∧ (∃ b, v = .slice (some ⟨b, 0, none⟩) (opensZ t).length (opensZ t).length ∧ w.heap.size ≤ b ∧ w'.heap[b]? = some (.cells ((opensZ t).map fun n => .int .i64 n).toArray 3 (0, 0))) ∧ Below w.heap.size w w' := by
  have HX0 : Hid ((w.alloc (.cells #[.int .i64 t.k, .string t.s, .int .i64 t.l, .int .i64 t.c] 70)).heap[w.heap.size]? = some (.cells #[.int .i64 t.k, .string t.s, .int .i64 t.l, .int .i64 t.c] 70 (0, 0))) := heap_alloc_new w _
  have HB0 : Hid (Below w.heap.size w (w.alloc (.cells #[.int .i64 t.k, .string t.s, .int .i64 t.l, .int .i64 t.c] 70))) := (Below.refl _ w).alloc (Nat.le_refl _) _
  unfold aggZ
  go_enter Try.func91, Try.ntmps91
  go_wp2_with fail
  rw [tok_eta2]
  refine (is_any t 5 ⟨#[40]⟩ _).mono ?_
  rintro e w1 ⟨rfl, hb⟩
  have HX1 := hide ((hb.block w.heap.size (heap_lt HX0.out)).trans HX0.out)
  have HB1 := hide (HB0.out.trans (hb.mono HB0.out.size))
  clear hb
  have c0 := cell_of HX1.out 0
  have c1 := cell_of HX1.out 1
  have c2 := cell_of HX1.out 2
  have c3 := cell_of HX1.out 3
  simp only [List.getElem?_toArray, List.getElem?_cons_succ, List.getElem?_cons_zero] at c0 c1 c2 c3
  cases hI : isB t 5 ⟨#[40]⟩
  rotate_left
  · have HI1 := hide hI
    clear hI
    go_wp2
    go_ret
    exact opens_leaf (by unfold opensZ; rw [HI1.out]) HB1.out
  have HI1 := hide hI
  clear hI
  go_wp2_with fail
  rw [tok_eta2]
  refine (is_any t 4 ⟨#[108, 101, 116]⟩ _).mono ?_
  rintro e w2 ⟨rfl, hb⟩
  have HX2 := hide ((hb.block w.heap.size (heap_lt HX1.out)).trans HX1.out)
  have HB2 := hide (HB1.out.trans (hb.mono HB1.out.size))
  clear hb
  have c0 := cell_of HX2.out 0
  have c1 := cell_of HX2.out 1
  have c2 := cell_of HX2.out 2
  have c3 := cell_of HX2.out 3
  simp only [List.getElem?_toArray, List.getElem?_cons_succ, List.getElem?_cons_zero] at c0 c1 c2 c3
  cases hI : isB t 4 ⟨#[108, 101, 116]⟩
  rotate_left
  · have HI2 := hide hI
    clear hI
    go_wp2
    go_ret
    exact opens_leaf (by unfold opensZ; rw [HI1.out, HI2.out]) HB2.out
  have HI2 := hide hI
  clear hI
  go_wp2_with fail
  rw [tok_eta2]
  refine (is_any t 4 ⟨#[105, 102]⟩ _).mono ?_
  rintro e w3 ⟨rfl, hb⟩
  have HX3 := hide ((hb.block w.heap.size (heap_lt HX2.out)).trans HX2.out)
  have HB3 := hide (HB2.out.trans (hb.mono HB2.out.size))
  clear hb
  have c0 := cell_of HX3.out 0
  have c1 := cell_of HX3.out 1
  have c2 := cell_of HX3.out 2
  have c3 := cell_of HX3.out 3
  simp only [List.getElem?_toArray, List.getElem?_cons_succ, List.getElem?_cons_zero] at c0 c1 c2 c3
  cases hI : isB t 4 ⟨#[105, 102]⟩
  rotate_left
  · have HI3 := hide hI
    clear hI
    go_wp2
    go_ret
    exact opens_leaf (by unfold opensZ; rw [HI1.out, HI2.out, HI3.out]) HB3.out
  have HI3 := hide hI
  clear hI
  go_wp2_with fail
  rw [tok_eta2]
  refine (is_any t 4 ⟨#[99, 97, 115, 101]⟩ _).mono ?_
  rintro e w4 ⟨rfl, hb⟩
  have HX4 := hide ((hb.block w.heap.size (heap_lt HX3.out)).trans HX3.out)
  have HB4 := hide (HB3.out.trans (hb.mono HB3.out.size))
  clear hb
  have c0 := cell_of HX4.out 0
  have c1 := cell_of HX4.out 1
  have c2 := cell_of HX4.out 2
  have c3 := cell_of HX4.out 3
  simp only [List.getElem?_toArray, List.getElem?_cons_succ, List.getElem?_cons_zero] at c0 c1 c2 c3
  cases hI : isB t 4 ⟨#[99, 97, 115, 101]⟩
  rotate_left
  · have HI4 := hide hI
    clear hI
    go_wp2
    go_ret
    exact opens_leaf (by unfold opensZ; rw [HI1.out, HI2.out, HI3.out, HI4.out]) HB4.out
  have HI4 := hide hI
  clear hI
  go_wp2
  go_ret
  exact opens_leaf (by unfold opensZ; rw [HI1.out, HI2.out, HI3.out, HI4.out]) HB4.out
end Go.Proofs.Ytfcgfinohhhpiai
