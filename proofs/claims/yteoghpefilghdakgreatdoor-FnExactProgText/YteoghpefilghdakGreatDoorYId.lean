/- The program's formOf, of some kinds. -/
import Derived.Test.YteoghpefilghdakGreatDoorYH
namespace Go.Proofs.YteoghpefilghdakGreatDoor
open Go.ChangeShapes Go.WideShapes Go.ChangeAt Go.RowKit

set_option maxHeartbeats 1000000 in
set_option maxRecDepth 100000 in
theorem form8_yes (s : ByteArray) (n : Int) (b off c1 : Nat) (o2 : Option Addr) (l2 c2 : Nat) (o3 : Option Addr) (l3 c3 : Nat) (a0 a1 a2 a3 a4 a5 : Value) (b0 b1 b2 b3 b4 b5 : Value) (d0 d1 d2 d3 d4 d5 : Value) (w : World) (m00 : w.cell? ⟨b, off, none⟩ = some a0) (m01 : w.cell? ⟨b, off + 1, none⟩ = some a1) (m02 : w.cell? ⟨b, off + 2, none⟩ = some a2) (m03 : w.cell? ⟨b, off + 3, none⟩ = some a3) (m04 : w.cell? ⟨b, off + 4, none⟩ = some a4) (m05 : w.cell? ⟨b, off + 5, none⟩ = some a5) (m10 : w.cell? ⟨b, off + 6, none⟩ = some b0) (m11 : w.cell? ⟨b, off + 6 + 1, none⟩ = some b1) (m12 : w.cell? ⟨b, off + 6 + 2, none⟩ = some b2) (m13 : w.cell? ⟨b, off + 6 + 3, none⟩ = some b3) (m14 : w.cell? ⟨b, off + 6 + 4, none⟩ = some b4) (m15 : w.cell? ⟨b, off + 6 + 5, none⟩ = some b5) (m20 : w.cell? ⟨b, off + 12, none⟩ = some d0) (m21 : w.cell? ⟨b, off + 12 + 1, none⟩ = some d1) (m22 : w.cell? ⟨b, off + 12 + 2, none⟩ = some d2) (m23 : w.cell? ⟨b, off + 12 + 3, none⟩ = some d3) (m24 : w.cell? ⟨b, off + 12 + 4, none⟩ = some d4) (m25 : w.cell? ⟨b, off + 12 + 5, none⟩ = some d5) (ho : outl ⟨#[]⟩ s 0 n 3 3 0 l2 0 l3 = true) :
    Calls Tryz.prog 69 #[.agg #[.int .i64 8, .string s, .int .i64 n, .slice (some ⟨b, off, none⟩) 3 c1, .slice o2 l2 c2, .slice o3 l3 c3]] w fun e w' => e = .returned (.iface 172 (.agg #[a0, a1, a2, a3, a4, a5, b0, b1, b2, b3, b4, b5, d0, d1, d2, d3, d4, d5])) ∧ Below w.heap.size w w' := by
  have HO := hide ho
  clear ho
  have HX0 : Hid ((w.alloc (.cells #[.int .i64 8, .string s, .int .i64 n, .slice (some ⟨b, off, none⟩) 3 c1, .slice o2 l2 c2, .slice o3 l3 c3] 47)).heap[w.heap.size]? = some (.cells #[.int .i64 8, .string s, .int .i64 n, .slice (some ⟨b, off, none⟩) 3 c1, .slice o2 l2 c2, .slice o3 l3 c3] 47 (0, 0))) := heap_alloc_new w _
  have HB0 : Hid (Below w.heap.size w (w.alloc (.cells #[.int .i64 8, .string s, .int .i64 n, .slice (some ⟨b, off, none⟩) 3 c1, .slice o2 l2 c2, .slice o3 l3 c3] 47))) := (Below.refl _ w).alloc (Nat.le_refl _) _
  have hbl : b < w.heap.size := World.block_lt_of_cell? w _ m00
  go_enter Tryz.func69, Tryz.ntmps69
  go_wp2_with fail
  refine (kind8_yes s n b off c1 o2 l2 c2 o3 l3 c3 a0 a1 a2 a3 a4 a5 b0 b1 b2 b3 b4 b5 d0 d1 d2 d3 d4 d5 _ ((HB0.out.cell (p := ⟨b, off, none⟩) hbl).trans m00) ((HB0.out.cell (p := ⟨b, off + 1, none⟩) hbl).trans m01) ((HB0.out.cell (p := ⟨b, off + 2, none⟩) hbl).trans m02) ((HB0.out.cell (p := ⟨b, off + 3, none⟩) hbl).trans m03) ((HB0.out.cell (p := ⟨b, off + 4, none⟩) hbl).trans m04) ((HB0.out.cell (p := ⟨b, off + 5, none⟩) hbl).trans m05) ((HB0.out.cell (p := ⟨b, off + 6, none⟩) hbl).trans m10) ((HB0.out.cell (p := ⟨b, off + 6 + 1, none⟩) hbl).trans m11) ((HB0.out.cell (p := ⟨b, off + 6 + 2, none⟩) hbl).trans m12) ((HB0.out.cell (p := ⟨b, off + 6 + 3, none⟩) hbl).trans m13) ((HB0.out.cell (p := ⟨b, off + 6 + 4, none⟩) hbl).trans m14) ((HB0.out.cell (p := ⟨b, off + 6 + 5, none⟩) hbl).trans m15) ((HB0.out.cell (p := ⟨b, off + 12, none⟩) hbl).trans m20) ((HB0.out.cell (p := ⟨b, off + 12 + 1, none⟩) hbl).trans m21) ((HB0.out.cell (p := ⟨b, off + 12 + 2, none⟩) hbl).trans m22) ((HB0.out.cell (p := ⟨b, off + 12 + 3, none⟩) hbl).trans m23) ((HB0.out.cell (p := ⟨b, off + 12 + 4, none⟩) hbl).trans m24) ((HB0.out.cell (p := ⟨b, off + 12 + 5, none⟩) hbl).trans m25)).mono ?_
  rintro e w1 ⟨rfl, hb⟩
  have HB1 := hide (HB0.out.trans (hb.mono HB0.out.size))
  have HX1 := hide ((hb.block w.heap.size (heap_lt HX0.out)).trans HX0.out)
  have hlt1 : w.heap.size < w1.heap.size := heap_lt HX1.out
  clear hb m00 m01 m02 m03 m04 m05 m10 m11 m12 m13 m14 m15 m20 m21 m22 m23 m24 m25
  have x0 := cell_of HX1.out 0
  have x1 := cell_of HX1.out 1
  have x2 := cell_of HX1.out 2
  have x3 := cell_of HX1.out 3
  have x4 := cell_of HX1.out 4
  have x5 := cell_of HX1.out 5
  simp only [List.getElem?_toArray, List.getElem?_cons_succ, List.getElem?_cons_zero] at x0 x1 x2 x3 x4 x5
  have hmd : ∀ w : World, (method 342 172 (.agg #[a0, a1, a2, a3, a4, a5, b0, b1, b2, b3, b4, b5, d0, d1, d2, d3, d4, d5]) "loop.example/g00471/impl.exp").run Tryz.prog w = .ok (186, .agg #[a0, a1, a2, a3, a4, a5, b0, b1, b2, b3, b4, b5, d0, d1, d2, d3, d4, d5]) w := fun _ => by kernel_rfl
  go_wp2_with fail
  go_region_with (first
    | (go_at_call 186; refine (ifForm_exp a0 a1 a2 a3 a4 a5 b0 b1 b2 b3 b4 b5 d0 d1 d2 d3 d4 d5 _).mono ?_; rintro e w2 ⟨p, g, rfl, hb2⟩; have HB2 := hide hb2; have y0 := (hb2.cell (p := ⟨w.heap.size, 0, none⟩) hlt1).trans x0; have y1 := (hb2.cell (p := ⟨w.heap.size, 1, none⟩) hlt1).trans x1; have y2 := (hb2.cell (p := ⟨w.heap.size, 2, none⟩) hlt1).trans x2; have y3 := (hb2.cell (p := ⟨w.heap.size, 3, none⟩) hlt1).trans x3; have y4 := (hb2.cell (p := ⟨w.heap.size, 4, none⟩) hlt1).trans x4; have y5 := (hb2.cell (p := ⟨w.heap.size, 5, none⟩) hlt1).trans x5; clear hb2)
    | (go_at_call 107; refine (sameOutline_any 8 ⟨#[]⟩ s 0 n 3 3 0 l2 0 l3 p none none (some ⟨b, off, none⟩) o2 o3 g 0 0 c1 c2 c3 _).mono ?_; rintro e w3 ⟨rfl, hb3⟩; rw [HO.out]; have HB3 := hide hb3; clear hb3))
  all_goals
    go_wp2
    go_ret
    exact ⟨rfl, HB1.out.trans ((((Below.refl _ _).drew.trans HB2.out).trans (HB3.out.mono (((Below.refl _ _).drew.trans HB2.out).size))).mono HB1.out.size)⟩

set_option maxHeartbeats 1000000 in
set_option maxRecDepth 100000 in
theorem form8_no (s : ByteArray) (n : Int) (b off c1 : Nat) (o2 : Option Addr) (l2 c2 : Nat) (o3 : Option Addr) (l3 c3 : Nat) (a0 a1 a2 a3 a4 a5 : Value) (b0 b1 b2 b3 b4 b5 : Value) (d0 d1 d2 d3 d4 d5 : Value) (w : World) (m00 : w.cell? ⟨b, off, none⟩ = some a0) (m01 : w.cell? ⟨b, off + 1, none⟩ = some a1) (m02 : w.cell? ⟨b, off + 2, none⟩ = some a2) (m03 : w.cell? ⟨b, off + 3, none⟩ = some a3) (m04 : w.cell? ⟨b, off + 4, none⟩ = some a4) (m05 : w.cell? ⟨b, off + 5, none⟩ = some a5) (m10 : w.cell? ⟨b, off + 6, none⟩ = some b0) (m11 : w.cell? ⟨b, off + 6 + 1, none⟩ = some b1) (m12 : w.cell? ⟨b, off + 6 + 2, none⟩ = some b2) (m13 : w.cell? ⟨b, off + 6 + 3, none⟩ = some b3) (m14 : w.cell? ⟨b, off + 6 + 4, none⟩ = some b4) (m15 : w.cell? ⟨b, off + 6 + 5, none⟩ = some b5) (m20 : w.cell? ⟨b, off + 12, none⟩ = some d0) (m21 : w.cell? ⟨b, off + 12 + 1, none⟩ = some d1) (m22 : w.cell? ⟨b, off + 12 + 2, none⟩ = some d2) (m23 : w.cell? ⟨b, off + 12 + 3, none⟩ = some d3) (m24 : w.cell? ⟨b, off + 12 + 4, none⟩ = some d4) (m25 : w.cell? ⟨b, off + 12 + 5, none⟩ = some d5) (ho : outl ⟨#[]⟩ s 0 n 3 3 0 l2 0 l3 = false) :
    Calls Tryz.prog 69 #[.agg #[.int .i64 8, .string s, .int .i64 n, .slice (some ⟨b, off, none⟩) 3 c1, .slice o2 l2 c2, .slice o3 l3 c3]] w fun e w' => e = .returned (.nilIface) ∧ Below w.heap.size w w' := by
  have HO := hide ho
  clear ho
  have HX0 : Hid ((w.alloc (.cells #[.int .i64 8, .string s, .int .i64 n, .slice (some ⟨b, off, none⟩) 3 c1, .slice o2 l2 c2, .slice o3 l3 c3] 47)).heap[w.heap.size]? = some (.cells #[.int .i64 8, .string s, .int .i64 n, .slice (some ⟨b, off, none⟩) 3 c1, .slice o2 l2 c2, .slice o3 l3 c3] 47 (0, 0))) := heap_alloc_new w _
  have HB0 : Hid (Below w.heap.size w (w.alloc (.cells #[.int .i64 8, .string s, .int .i64 n, .slice (some ⟨b, off, none⟩) 3 c1, .slice o2 l2 c2, .slice o3 l3 c3] 47))) := (Below.refl _ w).alloc (Nat.le_refl _) _
  have hbl : b < w.heap.size := World.block_lt_of_cell? w _ m00
  go_enter Tryz.func69, Tryz.ntmps69
  go_wp2_with fail
  refine (kind8_yes s n b off c1 o2 l2 c2 o3 l3 c3 a0 a1 a2 a3 a4 a5 b0 b1 b2 b3 b4 b5 d0 d1 d2 d3 d4 d5 _ ((HB0.out.cell (p := ⟨b, off, none⟩) hbl).trans m00) ((HB0.out.cell (p := ⟨b, off + 1, none⟩) hbl).trans m01) ((HB0.out.cell (p := ⟨b, off + 2, none⟩) hbl).trans m02) ((HB0.out.cell (p := ⟨b, off + 3, none⟩) hbl).trans m03) ((HB0.out.cell (p := ⟨b, off + 4, none⟩) hbl).trans m04) ((HB0.out.cell (p := ⟨b, off + 5, none⟩) hbl).trans m05) ((HB0.out.cell (p := ⟨b, off + 6, none⟩) hbl).trans m10) ((HB0.out.cell (p := ⟨b, off + 6 + 1, none⟩) hbl).trans m11) ((HB0.out.cell (p := ⟨b, off + 6 + 2, none⟩) hbl).trans m12) ((HB0.out.cell (p := ⟨b, off + 6 + 3, none⟩) hbl).trans m13) ((HB0.out.cell (p := ⟨b, off + 6 + 4, none⟩) hbl).trans m14) ((HB0.out.cell (p := ⟨b, off + 6 + 5, none⟩) hbl).trans m15) ((HB0.out.cell (p := ⟨b, off + 12, none⟩) hbl).trans m20) ((HB0.out.cell (p := ⟨b, off + 12 + 1, none⟩) hbl).trans m21) ((HB0.out.cell (p := ⟨b, off + 12 + 2, none⟩) hbl).trans m22) ((HB0.out.cell (p := ⟨b, off + 12 + 3, none⟩) hbl).trans m23) ((HB0.out.cell (p := ⟨b, off + 12 + 4, none⟩) hbl).trans m24) ((HB0.out.cell (p := ⟨b, off + 12 + 5, none⟩) hbl).trans m25)).mono ?_
  rintro e w1 ⟨rfl, hb⟩
  have HB1 := hide (HB0.out.trans (hb.mono HB0.out.size))
  have HX1 := hide ((hb.block w.heap.size (heap_lt HX0.out)).trans HX0.out)
  have hlt1 : w.heap.size < w1.heap.size := heap_lt HX1.out
  clear hb m00 m01 m02 m03 m04 m05 m10 m11 m12 m13 m14 m15 m20 m21 m22 m23 m24 m25
  have x0 := cell_of HX1.out 0
  have x1 := cell_of HX1.out 1
  have x2 := cell_of HX1.out 2
  have x3 := cell_of HX1.out 3
  have x4 := cell_of HX1.out 4
  have x5 := cell_of HX1.out 5
  simp only [List.getElem?_toArray, List.getElem?_cons_succ, List.getElem?_cons_zero] at x0 x1 x2 x3 x4 x5
  have hmd : ∀ w : World, (method 342 172 (.agg #[a0, a1, a2, a3, a4, a5, b0, b1, b2, b3, b4, b5, d0, d1, d2, d3, d4, d5]) "loop.example/g00471/impl.exp").run Tryz.prog w = .ok (186, .agg #[a0, a1, a2, a3, a4, a5, b0, b1, b2, b3, b4, b5, d0, d1, d2, d3, d4, d5]) w := fun _ => by kernel_rfl
  go_wp2_with fail
  go_region_with (first
    | (go_at_call 186; refine (ifForm_exp a0 a1 a2 a3 a4 a5 b0 b1 b2 b3 b4 b5 d0 d1 d2 d3 d4 d5 _).mono ?_; rintro e w2 ⟨p, g, rfl, hb2⟩; have HB2 := hide hb2; have y0 := (hb2.cell (p := ⟨w.heap.size, 0, none⟩) hlt1).trans x0; have y1 := (hb2.cell (p := ⟨w.heap.size, 1, none⟩) hlt1).trans x1; have y2 := (hb2.cell (p := ⟨w.heap.size, 2, none⟩) hlt1).trans x2; have y3 := (hb2.cell (p := ⟨w.heap.size, 3, none⟩) hlt1).trans x3; have y4 := (hb2.cell (p := ⟨w.heap.size, 4, none⟩) hlt1).trans x4; have y5 := (hb2.cell (p := ⟨w.heap.size, 5, none⟩) hlt1).trans x5; clear hb2)
    | (go_at_call 107; refine (sameOutline_any 8 ⟨#[]⟩ s 0 n 3 3 0 l2 0 l3 p none none (some ⟨b, off, none⟩) o2 o3 g 0 0 c1 c2 c3 _).mono ?_; rintro e w3 ⟨rfl, hb3⟩; rw [HO.out]; have HB3 := hide hb3; clear hb3))
  all_goals
    go_wp2
    go_ret
    exact ⟨rfl, HB1.out.trans ((((Below.refl _ _).drew.trans HB2.out).trans (HB3.out.mono (((Below.refl _ _).drew.trans HB2.out).size))).mono HB1.out.size)⟩

end Go.Proofs.YteoghpefilghdakGreatDoor
