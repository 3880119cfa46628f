import Derived.Test.YtfomndilhlgikajGreatDoorP37
set_option maxHeartbeats 8000000
set_option maxRecDepth 100000
namespace Go.Proofs.YtfomndilhlgikajGreatDoor
open Go.ChangeShapes Go.WideShapes Go.ChangeAt Go.RowKit
theorem yW (s : ByteArray) (n : Int) (b off c1 : Nat) (o2 : Option Addr) (l2 c2 : Nat) (o3 : Option Addr) (l3 c3 : Nat) (a0 a1 a2 a3 a4 a5 : Value) (b0 b1 b2 b3 b4 b5 : Value) (d0 d1 d2 d3 d4 d5 : Value) (w : World) (m00 : w.cell? ⟨b, off, none⟩ = some a0) (m01 : w.cell? ⟨b, off + 1, none⟩ = some a1) (m02 : w.cell? ⟨b, off + 2, none⟩ = some a2) (m03 : w.cell? ⟨b, off + 3, none⟩ = some a3) (m04 : w.cell? ⟨b, off + 4, none⟩ = some a4) (m05 : w.cell? ⟨b, off + 5, none⟩ = some a5) (m10 : w.cell? ⟨b, off + 6, none⟩ = some b0) (m11 : w.cell? ⟨b, off + 6 + 1, none⟩ = some b1) (m12 : w.cell? ⟨b, off + 6 + 2, none⟩ = some b2) (iG : w.cell? ⟨b, off + 6 + 3, none⟩ = some b3) (m14 : w.cell? ⟨b, off + 6 + 4, none⟩ = some b4) (m15 : w.cell? ⟨b, off + 6 + 5, none⟩ = some b5) (m20 : w.cell? ⟨b, off + 12, none⟩ = some d0) (m21 : w.cell? ⟨b, off + 12 + 1, none⟩ = some d1) (m22 : w.cell? ⟨b, off + 12 + 2, none⟩ = some d2) (tg : w.cell? ⟨b, off + 12 + 3, none⟩ = some d3) (m24 : w.cell? ⟨b, off + 12 + 4, none⟩ = some d4) (m25 : w.cell? ⟨b, off + 12 + 5, none⟩ = some d5) (ho : cy ⟨#[]⟩ s 0 n 3 3 0 l2 0 l3 = true) :
 Calls Tryz.prog 112 #[.agg #[.int .i64 8, .string s, .int .i64 n, .slice (some ⟨b, off, none⟩) 3 c1, .slice o2 l2 c2, .slice o3 l3 c3]] w fun e w' => e = .returned (.iface 208 (.agg #[a0, a1, a2, a3, a4, a5, b0, b1, b2, b3, b4, b5, d0, d1, d2, d3, d4, d5])) /\ Below w.heap.size w w' := by
 have HO := aa ho
 clear ho
 have aF : Hid ((w.alloc (.cells #[.int .i64 8, .string s, .int .i64 n, .slice (some ⟨b, off, none⟩) 3 c1, .slice o2 l2 c2, .slice o3 l3 c3] 34)).heap[w.heap.size]? = some (.cells #[.int .i64 8, .string s, .int .i64 n, .slice (some ⟨b, off, none⟩) 3 c1, .slice o2 l2 c2, .slice o3 l3 c3] 34 (0, 0))) := heap_alloc_new w _
 have aq : Hid (Below w.heap.size w (w.alloc (.cells #[.int .i64 8, .string s, .int .i64 n, .slice (some ⟨b, off, none⟩) 3 c1, .slice o2 l2 c2, .slice o3 l3 c3] 34))) := (U4 w).alloc U0 _
 have ay : b < w.heap.size := World.block_lt_of_cell? w _ m00
 go_enter Tryz.func112, Tryz.ntmps112
 go_wp2_with fail
 refine (rb s n b off c1 o2 l2 c2 o3 l3 c3 a0 a1 a2 a3 a4 a5 b0 b1 b2 b3 b4 b5 d0 d1 d2 d3 d4 d5 _ ((aq.out.cell (p := ⟨b, off, none⟩) ay).trans m00) ((aq.out.cell (p := ⟨b, off + 1, none⟩) ay).trans m01) ((aq.out.cell (p := ⟨b, off + 2, none⟩) ay).trans m02) ((aq.out.cell (p := ⟨b, off + 3, none⟩) ay).trans m03) ((aq.out.cell (p := ⟨b, off + 4, none⟩) ay).trans m04) ((aq.out.cell (p := ⟨b, off + 5, none⟩) ay).trans m05) ((aq.out.cell (p := ⟨b, off + 6, none⟩) ay).trans m10) ((aq.out.cell (p := ⟨b, off + 6 + 1, none⟩) ay).trans m11) ((aq.out.cell (p := ⟨b, off + 6 + 2, none⟩) ay).trans m12) ((aq.out.cell (p := ⟨b, off + 6 + 3, none⟩) ay).trans iG) ((aq.out.cell (p := ⟨b, off + 6 + 4, none⟩) ay).trans m14) ((aq.out.cell (p := ⟨b, off + 6 + 5, none⟩) ay).trans m15) ((aq.out.cell (p := ⟨b, off + 12, none⟩) ay).trans m20) ((aq.out.cell (p := ⟨b, off + 12 + 1, none⟩) ay).trans m21) ((aq.out.cell (p := ⟨b, off + 12 + 2, none⟩) ay).trans m22) ((aq.out.cell (p := ⟨b, off + 12 + 3, none⟩) ay).trans tg) ((aq.out.cell (p := ⟨b, off + 12 + 4, none⟩) ay).trans m24) ((aq.out.cell (p := ⟨b, off + 12 + 5, none⟩) ay).trans m25)).mono ?_
 rintro e w1 ⟨rfl, hb⟩
 have aR := aa (aq.out.trans (hb.mono aq.out.size))
 have aK := aa ((hb.block w.heap.size (ad aF.out)).trans aF.out)
 have aI : w.heap.size < w1.heap.size := ad aK.out
 clear hb m00 m01 m02 m03 m04 m05 m10 m11 m12 iG m14 m15 m20 m21 m22 tg m24 m25
 have x0 := cell_of aK.out 0
 have x1 := cell_of aK.out 1
 have x2 := cell_of aK.out 2
 have x3 := cell_of aK.out 3
 have x4 := cell_of aK.out 4
 have x5 := cell_of aK.out 5
 simp only [U7, U8, U9] at x0 x1 x2 x3 x4 x5
 have ve : ∀ w : World, (method 443 208 (.agg #[a0, a1, a2, a3, a4, a5, b0, b1, b2, b3, b4, b5, d0, d1, d2, d3, d4, d5]) "loop.example/g00471/impl.exp").run Tryz.prog w = .ok (214, .agg #[a0, a1, a2, a3, a4, a5, b0, b1, b2, b3, b4, b5, d0, d1, d2, d3, d4, d5]) w := fun _ => by kernel_rfl
 go_wp2_with fail
 go_region_with (first
  | (go_at_call 214; refine (pr a0 a1 a2 a3 a4 a5 b0 b1 b2 b3 b4 b5 d0 d1 d2 d3 d4 d5 _).mono ?_; rintro e w2 ⟨p, g, rfl, aX⟩; have bD := aa aX; have y0 := (aX.cell (p := ⟨w.heap.size, 0, none⟩) aI).trans x0; have y1 := (aX.cell (p := ⟨w.heap.size, 1, none⟩) aI).trans x1; have y2 := (aX.cell (p := ⟨w.heap.size, 2, none⟩) aI).trans x2; have y3 := (aX.cell (p := ⟨w.heap.size, 3, none⟩) aI).trans x3; have y4 := (aX.cell (p := ⟨w.heap.size, 4, none⟩) aI).trans x4; have y5 := (aX.cell (p := ⟨w.heap.size, 5, none⟩) aI).trans x5; clear aX)
  | (go_at_call 160; refine (aM 8 ⟨#[]⟩ s 0 n 3 3 0 l2 0 l3 p none none (some ⟨b, off, none⟩) o2 o3 g 0 0 c1 c2 c3 _).mono ?_; rintro e w3 ⟨rfl, cm⟩; rw [HO.out]; have dc := aa cm; clear cm))
 all_goals
  go_wp2
  go_ret
  exact ⟨rfl, aR.out.trans ((((U4 _).drew.trans bD.out).trans (dc.out.mono (((U4 _).drew.trans bD.out).size))).mono aR.out.size)⟩
theorem zR (s : ByteArray) (n : Int) (b off c1 : Nat) (o2 : Option Addr) (l2 c2 : Nat) (o3 : Option Addr) (l3 c3 : Nat) (a0 a1 a2 a3 a4 a5 : Value) (b0 b1 b2 b3 b4 b5 : Value) (d0 d1 d2 d3 d4 d5 : Value) (w : World) (m00 : w.cell? ⟨b, off, none⟩ = some a0) (m01 : w.cell? ⟨b, off + 1, none⟩ = some a1) (m02 : w.cell? ⟨b, off + 2, none⟩ = some a2) (m03 : w.cell? ⟨b, off + 3, none⟩ = some a3) (m04 : w.cell? ⟨b, off + 4, none⟩ = some a4) (m05 : w.cell? ⟨b, off + 5, none⟩ = some a5) (m10 : w.cell? ⟨b, off + 6, none⟩ = some b0) (m11 : w.cell? ⟨b, off + 6 + 1, none⟩ = some b1) (m12 : w.cell? ⟨b, off + 6 + 2, none⟩ = some b2) (iG : w.cell? ⟨b, off + 6 + 3, none⟩ = some b3) (m14 : w.cell? ⟨b, off + 6 + 4, none⟩ = some b4) (m15 : w.cell? ⟨b, off + 6 + 5, none⟩ = some b5) (m20 : w.cell? ⟨b, off + 12, none⟩ = some d0) (m21 : w.cell? ⟨b, off + 12 + 1, none⟩ = some d1) (m22 : w.cell? ⟨b, off + 12 + 2, none⟩ = some d2) (tg : w.cell? ⟨b, off + 12 + 3, none⟩ = some d3) (m24 : w.cell? ⟨b, off + 12 + 4, none⟩ = some d4) (m25 : w.cell? ⟨b, off + 12 + 5, none⟩ = some d5) (ho : cy ⟨#[]⟩ s 0 n 3 3 0 l2 0 l3 = false) :
 Calls Tryz.prog 112 #[.agg #[.int .i64 8, .string s, .int .i64 n, .slice (some ⟨b, off, none⟩) 3 c1, .slice o2 l2 c2, .slice o3 l3 c3]] w fun e w' => e = .returned (.nilIface) /\ Below w.heap.size w w' := by
 have HO := aa ho
 clear ho
 have aF : Hid ((w.alloc (.cells #[.int .i64 8, .string s, .int .i64 n, .slice (some ⟨b, off, none⟩) 3 c1, .slice o2 l2 c2, .slice o3 l3 c3] 34)).heap[w.heap.size]? = some (.cells #[.int .i64 8, .string s, .int .i64 n, .slice (some ⟨b, off, none⟩) 3 c1, .slice o2 l2 c2, .slice o3 l3 c3] 34 (0, 0))) := heap_alloc_new w _
 have aq : Hid (Below w.heap.size w (w.alloc (.cells #[.int .i64 8, .string s, .int .i64 n, .slice (some ⟨b, off, none⟩) 3 c1, .slice o2 l2 c2, .slice o3 l3 c3] 34))) := (U4 w).alloc U0 _
 have ay : b < w.heap.size := World.block_lt_of_cell? w _ m00
 go_enter Tryz.func112, Tryz.ntmps112
 go_wp2_with fail
 refine (rb s n b off c1 o2 l2 c2 o3 l3 c3 a0 a1 a2 a3 a4 a5 b0 b1 b2 b3 b4 b5 d0 d1 d2 d3 d4 d5 _ ((aq.out.cell (p := ⟨b, off, none⟩) ay).trans m00) ((aq.out.cell (p := ⟨b, off + 1, none⟩) ay).trans m01) ((aq.out.cell (p := ⟨b, off + 2, none⟩) ay).trans m02) ((aq.out.cell (p := ⟨b, off + 3, none⟩) ay).trans m03) ((aq.out.cell (p := ⟨b, off + 4, none⟩) ay).trans m04) ((aq.out.cell (p := ⟨b, off + 5, none⟩) ay).trans m05) ((aq.out.cell (p := ⟨b, off + 6, none⟩) ay).trans m10) ((aq.out.cell (p := ⟨b, off + 6 + 1, none⟩) ay).trans m11) ((aq.out.cell (p := ⟨b, off + 6 + 2, none⟩) ay).trans m12) ((aq.out.cell (p := ⟨b, off + 6 + 3, none⟩) ay).trans iG) ((aq.out.cell (p := ⟨b, off + 6 + 4, none⟩) ay).trans m14) ((aq.out.cell (p := ⟨b, off + 6 + 5, none⟩) ay).trans m15) ((aq.out.cell (p := ⟨b, off + 12, none⟩) ay).trans m20) ((aq.out.cell (p := ⟨b, off + 12 + 1, none⟩) ay).trans m21) ((aq.out.cell (p := ⟨b, off + 12 + 2, none⟩) ay).trans m22) ((aq.out.cell (p := ⟨b, off + 12 + 3, none⟩) ay).trans tg) ((aq.out.cell (p := ⟨b, off + 12 + 4, none⟩) ay).trans m24) ((aq.out.cell (p := ⟨b, off + 12 + 5, none⟩) ay).trans m25)).mono ?_
 rintro e w1 ⟨rfl, hb⟩
 have aR := aa (aq.out.trans (hb.mono aq.out.size))
 have aK := aa ((hb.block w.heap.size (ad aF.out)).trans aF.out)
 have aI : w.heap.size < w1.heap.size := ad aK.out
 clear hb m00 m01 m02 m03 m04 m05 m10 m11 m12 iG m14 m15 m20 m21 m22 tg m24 m25
 have x0 := cell_of aK.out 0
 have x1 := cell_of aK.out 1
 have x2 := cell_of aK.out 2
 have x3 := cell_of aK.out 3
 have x4 := cell_of aK.out 4
 have x5 := cell_of aK.out 5
 simp only [U7, U8, U9] at x0 x1 x2 x3 x4 x5
 have ve : ∀ w : World, (method 443 208 (.agg #[a0, a1, a2, a3, a4, a5, b0, b1, b2, b3, b4, b5, d0, d1, d2, d3, d4, d5]) "loop.example/g00471/impl.exp").run Tryz.prog w = .ok (214, .agg #[a0, a1, a2, a3, a4, a5, b0, b1, b2, b3, b4, b5, d0, d1, d2, d3, d4, d5]) w := fun _ => by kernel_rfl
 go_wp2_with fail
 go_region_with (first
  | (go_at_call 214; refine (pr a0 a1 a2 a3 a4 a5 b0 b1 b2 b3 b4 b5 d0 d1 d2 d3 d4 d5 _).mono ?_; rintro e w2 ⟨p, g, rfl, aX⟩; have bD := aa aX; have y0 := (aX.cell (p := ⟨w.heap.size, 0, none⟩) aI).trans x0; have y1 := (aX.cell (p := ⟨w.heap.size, 1, none⟩) aI).trans x1; have y2 := (aX.cell (p := ⟨w.heap.size, 2, none⟩) aI).trans x2; have y3 := (aX.cell (p := ⟨w.heap.size, 3, none⟩) aI).trans x3; have y4 := (aX.cell (p := ⟨w.heap.size, 4, none⟩) aI).trans x4; have y5 := (aX.cell (p := ⟨w.heap.size, 5, none⟩) aI).trans x5; clear aX)
  | (go_at_call 160; refine (aM 8 ⟨#[]⟩ s 0 n 3 3 0 l2 0 l3 p none none (some ⟨b, off, none⟩) o2 o3 g 0 0 c1 c2 c3 _).mono ?_; rintro e w3 ⟨rfl, cm⟩; rw [HO.out]; have dc := aa cm; clear cm))
 all_goals
  go_wp2
  go_ret
  exact ⟨rfl, aR.out.trans ((((U4 _).drew.trans bD.out).trans (dc.out.mono (((U4 _).drew.trans bD.out).size))).mono aR.out.size)⟩
end Go.Proofs.YtfomndilhlgikajGreatDoor
