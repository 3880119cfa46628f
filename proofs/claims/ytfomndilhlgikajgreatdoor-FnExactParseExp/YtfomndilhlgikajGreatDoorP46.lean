import Derived.Test.YtfomndilhlgikajGreatDoorP45
set_option maxHeartbeats 8000000
set_option maxRecDepth 100000
namespace Go.Proofs.YtfomndilhlgikajGreatDoor
open Go.ChangeShapes Go.WideShapes Go.ChangeAt Go.RowKit
theorem BO {h : Nat} (hP : pz h) (y z : Tr) (p01 p02 p03 : Option Addr) (g01 g02 g03 : Nat) (p11 p12 p13 : Option Addr) (g11 g12 g13 : Nat) (cb n : Nat) (d : Int) (w : World) (r0 : (reads (iq cb) w h).ex y [.int .i64 y.k, .string y.s, .int .i64 y.n, .slice p01 y.l.length g01, .slice p02 y.ds.length g02, .slice p03 y.al.length g03]) (r1 : (reads (iq cb) w h).ex z [.int .i64 z.k, .string z.s, .int .i64 z.n, .slice p11 z.l.length g11, .slice p12 z.ds.length g12, .slice p13 z.al.length g13]) (hc : Ctr w cb n) (hn : n <= 200) (h0 : -2 <= d) (h1 : d <= 12) :
 Calls Tryz.prog 153 #[.pointer (some ⟨cb, 0, none⟩), .iface 198 (.agg #[.int .i64 y.k, .string y.s, .int .i64 y.n, .slice p01 y.l.length g01, .slice p02 y.ds.length g02, .slice p03 y.al.length g03, .int .i64 z.k, .string z.s, .int .i64 z.n, .slice p11 z.l.length g11, .slice p12 z.ds.length g12, .slice p13 z.al.length g13]), .int .i64 d] w (Cres cb n w (cD (bJ h).ex (aW h).ex [y, z] (d + 1) n) (aB (aW h).ex [y, z])) := by
 have HP := aa hP
 have HC := aa hc
 have Di : cb < w.heap.size := ad hc
 have R0 := aa r0
 have R1 := aa r1
 clear hP hc r0 r1
 have aq : Hid (Below w.heap.size w (w.alloc (.cells #[.int .i64 y.k, .string y.s, .int .i64 y.n, .slice p01 y.l.length g01, .slice p02 y.ds.length g02, .slice p03 y.al.length g03, .int .i64 z.k, .string z.s, .int .i64 z.n, .slice p11 z.l.length g11, .slice p12 z.ds.length g12, .slice p13 z.al.length g13] 198))) := (U4 w).alloc U0 _
 have aF : Hid ((w.alloc (.cells #[.int .i64 y.k, .string y.s, .int .i64 y.n, .slice p01 y.l.length g01, .slice p02 y.ds.length g02, .slice p03 y.al.length g03, .int .i64 z.k, .string z.s, .int .i64 z.n, .slice p11 z.l.length g11, .slice p12 z.ds.length g12, .slice p13 z.al.length g13] 198)).heap[w.heap.size]? = some (.cells #[.int .i64 y.k, .string y.s, .int .i64 y.n, .slice p01 y.l.length g01, .slice p02 y.ds.length g02, .slice p03 y.al.length g03, .int .i64 z.k, .string z.s, .int .i64 z.n, .slice p11 z.l.length g11, .slice p12 z.ds.length g12, .slice p13 z.al.length g13] 198 (0, 0))) := heap_alloc_new w _
 have E5 := FK
 have Fq := Gx
 have Hz := FL
 have Jl := Gm
 have qa : Hid (Below (w.alloc (.cells #[.int .i64 y.k, .string y.s, .int .i64 y.n, .slice p01 y.l.length g01, .slice p02 y.ds.length g02, .slice p03 y.al.length g03, .int .i64 z.k, .string z.s, .int .i64 z.n, .slice p11 z.l.length g11, .slice p12 z.ds.length g12, .slice p13 z.al.length g13] 198)).heap.size (w.alloc (.cells #[.int .i64 y.k, .string y.s, .int .i64 y.n, .slice p01 y.l.length g01, .slice p02 y.ds.length g02, .slice p03 y.al.length g03, .int .i64 z.k, .string z.s, .int .i64 z.n, .slice p11 z.l.length g11, .slice p12 z.ds.length g12, .slice p13 z.al.length g13] 198)) ((w.alloc (.cells #[.int .i64 y.k, .string y.s, .int .i64 y.n, .slice p01 y.l.length g01, .slice p02 y.ds.length g02, .slice p03 y.al.length g03, .int .i64 z.k, .string z.s, .int .i64 z.n, .slice p11 z.l.length g11, .slice p12 z.ds.length g12, .slice p13 z.al.length g13] 198)).alloc (.cells #[.int .i64 y.k, .string y.s, .int .i64 y.n, .slice p01 y.l.length g01, .slice p02 y.ds.length g02, .slice p03 y.al.length g03, .int .i64 z.k, .string z.s, .int .i64 z.n, .slice p11 z.l.length g11, .slice p12 z.ds.length g12, .slice p13 z.al.length g13] 34))) := (U4 _).alloc U0 _
 have bD := aa (aq.out.trans (qa.out.mono aq.out.size))
 have dh : Hid (RowOf (iq cb) ((w.alloc (.cells #[.int .i64 y.k, .string y.s, .int .i64 y.n, .slice p01 y.l.length g01, .slice p02 y.ds.length g02, .slice p03 y.al.length g03, .int .i64 z.k, .string z.s, .int .i64 z.n, .slice p11 z.l.length g11, .slice p12 z.ds.length g12, .slice p13 z.al.length g13] 198)).alloc (.cells #[.int .i64 y.k, .string y.s, .int .i64 y.n, .slice p01 y.l.length g01, .slice p02 y.ds.length g02, .slice p03 y.al.length g03, .int .i64 z.k, .string z.s, .int .i64 z.n, .slice p11 z.l.length g11, .slice p12 z.ds.length g12, .slice p13 z.al.length g13] 34)) (reads (iq cb) ((w.alloc (.cells #[.int .i64 y.k, .string y.s, .int .i64 y.n, .slice p01 y.l.length g01, .slice p02 y.ds.length g02, .slice p03 y.al.length g03, .int .i64 z.k, .string z.s, .int .i64 z.n, .slice p11 z.l.length g11, .slice p12 z.ds.length g12, .slice p13 z.al.length g13] 198)).alloc (.cells #[.int .i64 y.k, .string y.s, .int .i64 y.n, .slice p01 y.l.length g01, .slice p02 y.ds.length g02, .slice p03 y.al.length g03, .int .i64 z.k, .string z.s, .int .i64 z.n, .slice p11 z.l.length g11, .slice p12 z.ds.length g12, .slice p13 z.al.length g13] 34)) h).ex 6 (some ⟨w.heap.size + 1, 0, none⟩) [y, z]) :=
  (xk ((ap bD.out h).1 _ _ R0.out) ((ap bD.out h).1 _ _ R1.out)).row (heap_alloc2_new w _ _) (by show w.heap.size + 1 ≠ cb; have := aq.out.size; omega)
 go_enter Tryz.func153, Tryz.ntmps153
 go_wp2_with fail
 refine (HP.out [y, z] _ 2 _ cb n d dh.out (show 2 <= maxLen by decide) (HC.out.later bD.out) hn (by omega) (by omega)).mono ?_
 rintro e w9 ⟨n9, rfl, hc9, qn, hk9⟩
 have wU := aa hc9
 have zF := aa qn
 have rT := aa ((Kp.of (cb := cb) bD.out).on hk9)
 clear hc9 qn hk9
 go_wp2
 go_ret
 exact ⟨n9, rfl, wU.out, zF.out, rT.out⟩
theorem zN {h : Nat} (hP : pz h) (y z q : Tr) (p01 p02 p03 : Option Addr) (g01 g02 g03 : Nat) (p11 p12 p13 : Option Addr) (g11 g12 g13 : Nat) (p21 p22 p23 : Option Addr) (g21 g22 g23 : Nat) (cb n : Nat) (d : Int) (w : World) (r0 : (reads (iq cb) w h).ex y [.int .i64 y.k, .string y.s, .int .i64 y.n, .slice p01 y.l.length g01, .slice p02 y.ds.length g02, .slice p03 y.al.length g03]) (r1 : (reads (iq cb) w h).ex z [.int .i64 z.k, .string z.s, .int .i64 z.n, .slice p11 z.l.length g11, .slice p12 z.ds.length g12, .slice p13 z.al.length g13]) (r2 : (reads (iq cb) w h).ex q [.int .i64 q.k, .string q.s, .int .i64 q.n, .slice p21 q.l.length g21, .slice p22 q.ds.length g22, .slice p23 q.al.length g23]) (hc : Ctr w cb n) (hn : n <= 200) (h0 : -2 <= d) (h1 : d <= 12) :
 Calls Tryz.prog 153 #[.pointer (some ⟨cb, 0, none⟩), .iface 208 (.agg #[.int .i64 y.k, .string y.s, .int .i64 y.n, .slice p01 y.l.length g01, .slice p02 y.ds.length g02, .slice p03 y.al.length g03, .int .i64 z.k, .string z.s, .int .i64 z.n, .slice p11 z.l.length g11, .slice p12 z.ds.length g12, .slice p13 z.al.length g13, .int .i64 q.k, .string q.s, .int .i64 q.n, .slice p21 q.l.length g21, .slice p22 q.ds.length g22, .slice p23 q.al.length g23]), .int .i64 d] w (Cres cb n w (cD (bJ h).ex (aW h).ex [y, z, q] (d + 1) n) (aB (aW h).ex [y, z, q])) := by
 have HP := aa hP
 have HC := aa hc
 have Di : cb < w.heap.size := ad hc
 have R0 := aa r0
 have R1 := aa r1
 have R2 := aa r2
 clear hP hc r0 r1 r2
 have aq : Hid (Below w.heap.size w (w.alloc (.cells #[.int .i64 y.k, .string y.s, .int .i64 y.n, .slice p01 y.l.length g01, .slice p02 y.ds.length g02, .slice p03 y.al.length g03, .int .i64 z.k, .string z.s, .int .i64 z.n, .slice p11 z.l.length g11, .slice p12 z.ds.length g12, .slice p13 z.al.length g13, .int .i64 q.k, .string q.s, .int .i64 q.n, .slice p21 q.l.length g21, .slice p22 q.ds.length g22, .slice p23 q.al.length g23] 208))) := (U4 w).alloc U0 _
 have aF : Hid ((w.alloc (.cells #[.int .i64 y.k, .string y.s, .int .i64 y.n, .slice p01 y.l.length g01, .slice p02 y.ds.length g02, .slice p03 y.al.length g03, .int .i64 z.k, .string z.s, .int .i64 z.n, .slice p11 z.l.length g11, .slice p12 z.ds.length g12, .slice p13 z.al.length g13, .int .i64 q.k, .string q.s, .int .i64 q.n, .slice p21 q.l.length g21, .slice p22 q.ds.length g22, .slice p23 q.al.length g23] 208)).heap[w.heap.size]? = some (.cells #[.int .i64 y.k, .string y.s, .int .i64 y.n, .slice p01 y.l.length g01, .slice p02 y.ds.length g02, .slice p03 y.al.length g03, .int .i64 z.k, .string z.s, .int .i64 z.n, .slice p11 z.l.length g11, .slice p12 z.ds.length g12, .slice p13 z.al.length g13, .int .i64 q.k, .string q.s, .int .i64 q.n, .slice p21 q.l.length g21, .slice p22 q.ds.length g22, .slice p23 q.al.length g23] 208 (0, 0))) := heap_alloc_new w _
 have E5 := FX
 have Fq := Gq
 have Hz := FT
 have Jl := G1
 have KX := GO
 have L3 := F8
 have Ok := GW
 have Qs := Gc
 have qa : Hid (Below (w.alloc (.cells #[.int .i64 y.k, .string y.s, .int .i64 y.n, .slice p01 y.l.length g01, .slice p02 y.ds.length g02, .slice p03 y.al.length g03, .int .i64 z.k, .string z.s, .int .i64 z.n, .slice p11 z.l.length g11, .slice p12 z.ds.length g12, .slice p13 z.al.length g13, .int .i64 q.k, .string q.s, .int .i64 q.n, .slice p21 q.l.length g21, .slice p22 q.ds.length g22, .slice p23 q.al.length g23] 208)).heap.size (w.alloc (.cells #[.int .i64 y.k, .string y.s, .int .i64 y.n, .slice p01 y.l.length g01, .slice p02 y.ds.length g02, .slice p03 y.al.length g03, .int .i64 z.k, .string z.s, .int .i64 z.n, .slice p11 z.l.length g11, .slice p12 z.ds.length g12, .slice p13 z.al.length g13, .int .i64 q.k, .string q.s, .int .i64 q.n, .slice p21 q.l.length g21, .slice p22 q.ds.length g22, .slice p23 q.al.length g23] 208)) ((w.alloc (.cells #[.int .i64 y.k, .string y.s, .int .i64 y.n, .slice p01 y.l.length g01, .slice p02 y.ds.length g02, .slice p03 y.al.length g03, .int .i64 z.k, .string z.s, .int .i64 z.n, .slice p11 z.l.length g11, .slice p12 z.ds.length g12, .slice p13 z.al.length g13, .int .i64 q.k, .string q.s, .int .i64 q.n, .slice p21 q.l.length g21, .slice p22 q.ds.length g22, .slice p23 q.al.length g23] 208)).alloc (.cells #[.int .i64 y.k, .string y.s, .int .i64 y.n, .slice p01 y.l.length g01, .slice p02 y.ds.length g02, .slice p03 y.al.length g03, .int .i64 z.k, .string z.s, .int .i64 z.n, .slice p11 z.l.length g11, .slice p12 z.ds.length g12, .slice p13 z.al.length g13, .int .i64 q.k, .string q.s, .int .i64 q.n, .slice p21 q.l.length g21, .slice p22 q.ds.length g22, .slice p23 q.al.length g23] 34))) := (U4 _).alloc U0 _
 have bD := aa (aq.out.trans (qa.out.mono aq.out.size))
 have dh : Hid (RowOf (iq cb) ((w.alloc (.cells #[.int .i64 y.k, .string y.s, .int .i64 y.n, .slice p01 y.l.length g01, .slice p02 y.ds.length g02, .slice p03 y.al.length g03, .int .i64 z.k, .string z.s, .int .i64 z.n, .slice p11 z.l.length g11, .slice p12 z.ds.length g12, .slice p13 z.al.length g13, .int .i64 q.k, .string q.s, .int .i64 q.n, .slice p21 q.l.length g21, .slice p22 q.ds.length g22, .slice p23 q.al.length g23] 208)).alloc (.cells #[.int .i64 y.k, .string y.s, .int .i64 y.n, .slice p01 y.l.length g01, .slice p02 y.ds.length g02, .slice p03 y.al.length g03, .int .i64 z.k, .string z.s, .int .i64 z.n, .slice p11 z.l.length g11, .slice p12 z.ds.length g12, .slice p13 z.al.length g13, .int .i64 q.k, .string q.s, .int .i64 q.n, .slice p21 q.l.length g21, .slice p22 q.ds.length g22, .slice p23 q.al.length g23] 34)) (reads (iq cb) ((w.alloc (.cells #[.int .i64 y.k, .string y.s, .int .i64 y.n, .slice p01 y.l.length g01, .slice p02 y.ds.length g02, .slice p03 y.al.length g03, .int .i64 z.k, .string z.s, .int .i64 z.n, .slice p11 z.l.length g11, .slice p12 z.ds.length g12, .slice p13 z.al.length g13, .int .i64 q.k, .string q.s, .int .i64 q.n, .slice p21 q.l.length g21, .slice p22 q.ds.length g22, .slice p23 q.al.length g23] 208)).alloc (.cells #[.int .i64 y.k, .string y.s, .int .i64 y.n, .slice p01 y.l.length g01, .slice p02 y.ds.length g02, .slice p03 y.al.length g03, .int .i64 z.k, .string z.s, .int .i64 z.n, .slice p11 z.l.length g11, .slice p12 z.ds.length g12, .slice p13 z.al.length g13, .int .i64 q.k, .string q.s, .int .i64 q.n, .slice p21 q.l.length g21, .slice p22 q.ds.length g22, .slice p23 q.al.length g23] 34)) h).ex 6 (some ⟨w.heap.size + 1, 0, none⟩) [y, z, q]) :=
  (D4 ((ap bD.out h).1 _ _ R0.out) ((ap bD.out h).1 _ _ R1.out) ((ap bD.out h).1 _ _ R2.out)).row (heap_alloc2_new w _ _) (by show w.heap.size + 1 ≠ cb; have := aq.out.size; omega)
 go_enter Tryz.func153, Tryz.ntmps153
 go_wp2_with fail
 refine (HP.out [y, z, q] _ 3 _ cb n d dh.out (show 3 <= maxLen by decide) (HC.out.later bD.out) hn (by omega) (by omega)).mono ?_
 rintro e w9 ⟨n9, rfl, hc9, qn, hk9⟩
 have wU := aa hc9
 have zF := aa qn
 have rT := aa ((Kp.of (cb := cb) bD.out).on hk9)
 clear hc9 qn hk9
 go_wp2
 go_ret
 exact ⟨n9, rfl, wU.out, zF.out, rT.out⟩
theorem AN {h : Nat} (hP : pz h) (s : ByteArray) (hs : s.size <= maxLen) (y : Tr) (p01 p02 p03 : Option Addr) (g01 g02 g03 : Nat) (cb n : Nat) (d : Int) (w : World) (r0 : (reads (iq cb) w h).ex y [.int .i64 y.k, .string y.s, .int .i64 y.n, .slice p01 y.l.length g01, .slice p02 y.ds.length g02, .slice p03 y.al.length g03]) (hc : Ctr w cb n) (hn : n <= 200) (h0 : -2 <= d) (h1 : d <= 12) :
 Calls Tryz.prog 153 #[.pointer (some ⟨cb, 0, none⟩), .iface 201 (.agg #[.string s, .int .i64 y.k, .string y.s, .int .i64 y.n, .slice p01 y.l.length g01, .slice p02 y.ds.length g02, .slice p03 y.al.length g03]), .int .i64 d] w (Cres cb n w (nu s && cD (bJ h).ex (aW h).ex [y] (d + 1) n) (aB (aW h).ex [y])) := by
 have HP := aa hP
 have HC := aa hc
 have Di : cb < w.heap.size := ad hc
 have R0 := aa r0
 clear hP hc r0
 have aq : Hid (Below w.heap.size w (w.alloc (.cells #[.string s, .int .i64 y.k, .string y.s, .int .i64 y.n, .slice p01 y.l.length g01, .slice p02 y.ds.length g02, .slice p03 y.al.length g03] 201))) := (U4 w).alloc U0 _
 have aF : Hid ((w.alloc (.cells #[.string s, .int .i64 y.k, .string y.s, .int .i64 y.n, .slice p01 y.l.length g01, .slice p02 y.ds.length g02, .slice p03 y.al.length g03] 201)).heap[w.heap.size]? = some (.cells #[.string s, .int .i64 y.k, .string y.s, .int .i64 y.n, .slice p01 y.l.length g01, .slice p02 y.ds.length g02, .slice p03 y.al.length g03] 201 (0, 0))) := heap_alloc_new w _
 have E5 := GK
 have Fq := GX
 have Hz := GY
 have Jl := GC
 have KX := Gw
 cases ht : nu s
 ·have HT := aa ht
  clear ht
  go_enter Tryz.func153, Tryz.ntmps153
  go_wp2_with fail
  refine (nJ s _ hs).mono ?_
  rintro e w1 ⟨rfl, hb⟩
  rw [HT.out]
  have aR := aa (aq.out.trans (hb.mono aq.out.size))
  have aK := aa ((hb.block w.heap.size (ad aF.out)).trans aF.out)
  clear hb
  go_wp2
  go_ret
  exact ⟨n, ah (by simp), HC.out.later aR.out, (fun hx => by simp at hx), Kp.of aR.out⟩
 ·have HT := aa ht
  clear ht
  go_enter Tryz.func153, Tryz.ntmps153
  go_wp2_with fail
  refine (nJ s _ hs).mono ?_
  rintro e w1 ⟨rfl, hb⟩
  rw [HT.out]
  have aR := aa (aq.out.trans (hb.mono aq.out.size))
  have aK := aa ((hb.block w.heap.size (ad aF.out)).trans aF.out)
  clear hb
  have x1 := cell_of aK.out 1
  have x2 := cell_of aK.out 2
  have x3 := cell_of aK.out 3
  have x4 := cell_of aK.out 4
  have x5 := cell_of aK.out 5
  have x6 := cell_of aK.out 6
  simp only [U7, U8, U9] at x1 x2 x3 x4 x5 x6
  have qa : Hid (Below w1.heap.size w1 (w1.alloc (.cells #[.int .i64 y.k, .string y.s, .int .i64 y.n, .slice p01 y.l.length g01, .slice p02 y.ds.length g02, .slice p03 y.al.length g03] 34))) := (U4 _).alloc U0 _
  have bD := aa (aR.out.trans (qa.out.mono aR.out.size))
  have dh : Hid (RowOf (iq cb) (w1.alloc (.cells #[.int .i64 y.k, .string y.s, .int .i64 y.n, .slice p01 y.l.length g01, .slice p02 y.ds.length g02, .slice p03 y.al.length g03] 34)) (reads (iq cb) (w1.alloc (.cells #[.int .i64 y.k, .string y.s, .int .i64 y.n, .slice p01 y.l.length g01, .slice p02 y.ds.length g02, .slice p03 y.al.length g03] 34)) h).ex 6 (some ⟨w1.heap.size, 0, none⟩) [y]) :=
   (lh ((ap bD.out h).1 _ _ R0.out)).row (heap_alloc_new _ _) (by show w1.heap.size ≠ cb; have := aR.out.size; omega)
  go_wp2_with fail
  refine (HP.out [y] _ 1 _ cb n d dh.out (show 1 <= maxLen by decide) (HC.out.later bD.out) hn (by omega) (by omega)).mono ?_
  rintro e w9 ⟨n9, rfl, hc9, qn, hk9⟩
  have wU := aa hc9
  have zF := aa qn
  have rT := aa ((Kp.of (cb := cb) bD.out).on hk9)
  clear hc9 qn hk9
  go_wp2
  go_ret
  exact ⟨n9, ah (by simp), wU.out, (fun hx => zF.out (by simpa using hx)), rT.out⟩
theorem Bs {h : Nat} (hP : pz h) (s : ByteArray) (y z : Tr) (p01 p02 p03 : Option Addr) (g01 g02 g03 : Nat) (p11 p12 p13 : Option Addr) (g11 g12 g13 : Nat) (cb n : Nat) (d : Int) (w : World) (r0 : (reads (iq cb) w h).ex y [.int .i64 y.k, .string y.s, .int .i64 y.n, .slice p01 y.l.length g01, .slice p02 y.ds.length g02, .slice p03 y.al.length g03]) (r1 : (reads (iq cb) w h).ex z [.int .i64 z.k, .string z.s, .int .i64 z.n, .slice p11 z.l.length g11, .slice p12 z.ds.length g12, .slice p13 z.al.length g13]) (hc : Ctr w cb n) (hn : n <= 200) (h0 : -2 <= d) (h1 : d <= 12) :
 Calls Tryz.prog 153 #[.pointer (some ⟨cb, 0, none⟩), .iface 210 (.agg #[.string s, .int .i64 y.k, .string y.s, .int .i64 y.n, .slice p01 y.l.length g01, .slice p02 y.ds.length g02, .slice p03 y.al.length g03, .int .i64 z.k, .string z.s, .int .i64 z.n, .slice p11 z.l.length g11, .slice p12 z.ds.length g12, .slice p13 z.al.length g13]), .int .i64 d] w (Cres cb n w (Aw s && cD (bJ h).ex (aW h).ex [y, z] (d + 1) n) (aB (aW h).ex [y, z])) := by
 have HP := aa hP
 have HC := aa hc
 have Di : cb < w.heap.size := ad hc
 have R0 := aa r0
 have R1 := aa r1
 clear hP hc r0 r1
 have aq : Hid (Below w.heap.size w (w.alloc (.cells #[.string s, .int .i64 y.k, .string y.s, .int .i64 y.n, .slice p01 y.l.length g01, .slice p02 y.ds.length g02, .slice p03 y.al.length g03, .int .i64 z.k, .string z.s, .int .i64 z.n, .slice p11 z.l.length g11, .slice p12 z.ds.length g12, .slice p13 z.al.length g13] 210))) := (U4 w).alloc U0 _
 have aF : Hid ((w.alloc (.cells #[.string s, .int .i64 y.k, .string y.s, .int .i64 y.n, .slice p01 y.l.length g01, .slice p02 y.ds.length g02, .slice p03 y.al.length g03, .int .i64 z.k, .string z.s, .int .i64 z.n, .slice p11 z.l.length g11, .slice p12 z.ds.length g12, .slice p13 z.al.length g13] 210)).heap[w.heap.size]? = some (.cells #[.string s, .int .i64 y.k, .string y.s, .int .i64 y.n, .slice p01 y.l.length g01, .slice p02 y.ds.length g02, .slice p03 y.al.length g03, .int .i64 z.k, .string z.s, .int .i64 z.n, .slice p11 z.l.length g11, .slice p12 z.ds.length g12, .slice p13 z.al.length g13] 210 (0, 0))) := heap_alloc_new w _
 have E5 := F3
 have Fq := GH
 have Hz := Gh
 have Jl := FY
 have KX := F9
 have L3 := Hc
 have Ok := GE
 have Qs := Ga
 have Sz := F7
 cases ht : Aw s
 ·have HT := aa ht
  clear ht
  go_enter Tryz.func153, Tryz.ntmps153
  go_wp2_with fail
  refine (tT s _).mono ?_
  rintro e w1 ⟨rfl, hb⟩
  rw [HT.out]
  have aR := aq
  rw [<- hb] at aR
  have aK := aF
  rw [<- hb] at aK
  clear hb
  go_wp2
  go_ret
  exact ⟨n, ah (by simp), HC.out.later aR.out, (fun hx => by simp at hx), Kp.of aR.out⟩
 ·have HT := aa ht
  clear ht
  go_enter Tryz.func153, Tryz.ntmps153
  go_wp2_with fail
  refine (tT s _).mono ?_
  rintro e w1 ⟨rfl, hb⟩
  rw [HT.out]
  have aR := aq
  rw [<- hb] at aR
  have aK := aF
  rw [<- hb] at aK
  clear hb
  have x1 := cell_of aK.out 1
  have x2 := cell_of aK.out 2
  have x3 := cell_of aK.out 3
  have x4 := cell_of aK.out 4
  have x5 := cell_of aK.out 5
  have x6 := cell_of aK.out 6
  have x7 := cell_of aK.out 7
  have x8 := cell_of aK.out 8
  have x9 := cell_of aK.out 9
  have SB := cell_of aK.out 10
  have Tx := cell_of aK.out 11
  have T9 := cell_of aK.out 12
  simp only [U7, U8, U9] at x1 x2 x3 x4 x5 x6 x7 x8 x9 SB Tx T9
  have qa : Hid (Below w1.heap.size w1 (w1.alloc (.cells #[.int .i64 y.k, .string y.s, .int .i64 y.n, .slice p01 y.l.length g01, .slice p02 y.ds.length g02, .slice p03 y.al.length g03, .int .i64 z.k, .string z.s, .int .i64 z.n, .slice p11 z.l.length g11, .slice p12 z.ds.length g12, .slice p13 z.al.length g13] 34))) := (U4 _).alloc U0 _
  have bD := aa (aR.out.trans (qa.out.mono aR.out.size))
  have dh : Hid (RowOf (iq cb) (w1.alloc (.cells #[.int .i64 y.k, .string y.s, .int .i64 y.n, .slice p01 y.l.length g01, .slice p02 y.ds.length g02, .slice p03 y.al.length g03, .int .i64 z.k, .string z.s, .int .i64 z.n, .slice p11 z.l.length g11, .slice p12 z.ds.length g12, .slice p13 z.al.length g13] 34)) (reads (iq cb) (w1.alloc (.cells #[.int .i64 y.k, .string y.s, .int .i64 y.n, .slice p01 y.l.length g01, .slice p02 y.ds.length g02, .slice p03 y.al.length g03, .int .i64 z.k, .string z.s, .int .i64 z.n, .slice p11 z.l.length g11, .slice p12 z.ds.length g12, .slice p13 z.al.length g13] 34)) h).ex 6 (some ⟨w1.heap.size, 0, none⟩) [y, z]) :=
   (xk ((ap bD.out h).1 _ _ R0.out) ((ap bD.out h).1 _ _ R1.out)).row (heap_alloc_new _ _) (by show w1.heap.size ≠ cb; have := aR.out.size; omega)
  go_wp2_with fail
  refine (HP.out [y, z] _ 2 _ cb n d dh.out (show 2 <= maxLen by decide) (HC.out.later bD.out) hn (by omega) (by omega)).mono ?_
  rintro e w9 ⟨n9, rfl, hc9, qn, hk9⟩
  have wU := aa hc9
  have zF := aa qn
  have rT := aa ((Kp.of (cb := cb) bD.out).on hk9)
  clear hc9 qn hk9
  go_wp2
  go_ret
  exact ⟨n9, ah (by simp), wU.out, (fun hx => zF.out (by simpa using hx)), rT.out⟩
theorem Ac {h : Nat} (hP : pz h) (hD : Bu h) (ds : List Tr) (o2 : Option Addr) (c2 : Nat) (L7 : ds.length <= maxLen) (y : Tr) (p01 p02 p03 : Option Addr) (g01 g02 g03 : Nat) (cb n : Nat) (d : Int) (w : World) (r0 : (reads (iq cb) w h).ex y [.int .i64 y.k, .string y.s, .int .i64 y.n, .slice p01 y.l.length g01, .slice p02 y.ds.length g02, .slice p03 y.al.length g03]) (rd : RowOf (iq cb) w (reads (iq cb) w h).de 9 o2 ds) (hc : Ctr w cb n) (hn : n <= 200) (h0 : -2 <= d) (h1 : d <= 12) :
 Calls Tryz.prog 153 #[.pointer (some ⟨cb, 0, none⟩), .iface 203 (.agg #[.slice o2 ds.length c2, .int .i64 y.k, .string y.s, .int .i64 y.n, .slice p01 y.l.length g01, .slice p02 y.ds.length g02, .slice p03 y.al.length g03]), .int .i64 d] w (Cres cb n w ((cL (bJ h).de ds 6 (d + 1) && decide (n + aB (aW h).de ds <= 200)) && cD (bJ h).ex (aW h).ex [y] (d + 1) (n + aB (aW h).de ds)) (aB (aW h).de ds + aB (aW h).ex [y])) := by
 have HP := aa hP
 have HC := aa hc
 have Di : cb < w.heap.size := ad hc
 have R0 := aa r0
 have HD := aa hD
 have RD := aa rd
 have Pz := aa L7
 clear hP hc r0 hD rd L7
 have aq : Hid (Below w.heap.size w (w.alloc (.cells #[.slice o2 ds.length c2, .int .i64 y.k, .string y.s, .int .i64 y.n, .slice p01 y.l.length g01, .slice p02 y.ds.length g02, .slice p03 y.al.length g03] 203))) := (U4 w).alloc U0 _
 have aF : Hid ((w.alloc (.cells #[.slice o2 ds.length c2, .int .i64 y.k, .string y.s, .int .i64 y.n, .slice p01 y.l.length g01, .slice p02 y.ds.length g02, .slice p03 y.al.length g03] 203)).heap[w.heap.size]? = some (.cells #[.slice o2 ds.length c2, .int .i64 y.k, .string y.s, .int .i64 y.n, .slice p01 y.l.length g01, .slice p02 y.ds.length g02, .slice p03 y.al.length g03] 203 (0, 0))) := heap_alloc_new w _
 have E5 := Gg
 have Fq := G9
 have Hz := GP
 have Jl := GV
 have KX := Gi
 have L3 := Gj
 cases ht : (cL (bJ h).de ds 6 (d + 1) && decide (n + aB (aW h).de ds <= 200))
 ·have HT := aa ht
  clear ht
  go_enter Tryz.func153, Tryz.ntmps153
  go_wp2_with fail
  refine (HD.out ds o2 c2 _ cb n 6 (d + 1) (RD.out.later aq.out (ap aq.out h).2.1) Pz.out (HC.out.later aq.out) hn (by omega) (by omega) (by omega) (by omega)).mono ?_
  rintro e w1 ⟨n1, rfl, mZ, jn, dV⟩
  rw [HT.out]
  have gJ := aa mZ
  have Dq := aa jn
  have ez := aa ((Kp.of (cb := cb) aq.out).on dV)
  have aK := aa ((dV.block w.heap.size (ad aF.out) (by omega)).trans aF.out)
  clear mZ jn dV
  go_wp2
  go_ret
  exact ⟨n1, ah (by simp), gJ.out, (fun hx => by simp at hx), ez.out⟩
 ·have HT := aa ht
  have iL : n + aB (aW h).de ds <= 200 := by rw [Bool.and_eq_true] at ht; exact of_decide_eq_true ht.2
  clear ht
  go_enter Tryz.func153, Tryz.ntmps153
  go_wp2_with fail
  refine (HD.out ds o2 c2 _ cb n 6 (d + 1) (RD.out.later aq.out (ap aq.out h).2.1) Pz.out (HC.out.later aq.out) hn (by omega) (by omega) (by omega) (by omega)).mono ?_
  rintro e w1 ⟨n1, rfl, mZ, jn, dV⟩
  rw [HT.out]
  have gJ := aa mZ
  have Dq := aa jn
  have ez := aa ((Kp.of (cb := cb) aq.out).on dV)
  have aK := aa ((dV.block w.heap.size (ad aF.out) (by omega)).trans aF.out)
  clear mZ jn dV
  have Kx := Dq.out HT.out
  have ti := aa Kx
  have jn : n1 <= 200 := by omega
  clear Kx
  have x1 := cell_of aK.out 1
  have x2 := cell_of aK.out 2
  have x3 := cell_of aK.out 3
  have x4 := cell_of aK.out 4
  have x5 := cell_of aK.out 5
  have x6 := cell_of aK.out 6
  simp only [U7, U8, U9] at x1 x2 x3 x4 x5 x6
  have qa : Hid (Below w1.heap.size w1 (w1.alloc (.cells #[.int .i64 y.k, .string y.s, .int .i64 y.n, .slice p01 y.l.length g01, .slice p02 y.ds.length g02, .slice p03 y.al.length g03] 34))) := (U4 _).alloc U0 _
  have fh := aa (ez.out.then qa.out)
  have dh : Hid (RowOf (iq cb) (w1.alloc (.cells #[.int .i64 y.k, .string y.s, .int .i64 y.n, .slice p01 y.l.length g01, .slice p02 y.ds.length g02, .slice p03 y.al.length g03] 34)) (reads (iq cb) (w1.alloc (.cells #[.int .i64 y.k, .string y.s, .int .i64 y.n, .slice p01 y.l.length g01, .slice p02 y.ds.length g02, .slice p03 y.al.length g03] 34)) h).ex 6 (some ⟨w1.heap.size, 0, none⟩) [y]) :=
   (lh ((bm fh.out.stays (fun _ h => h) h).1 _ _ R0.out)).row (heap_alloc_new _ _) (by show w1.heap.size ≠ cb; have := ez.out.size; omega)
  go_wp2_with fail
  refine (HP.out [y] _ 1 _ cb n1 d dh.out (show 1 <= maxLen by decide) (gJ.out.later qa.out) jn (by omega) (by omega)).mono ?_
  rintro e w9 ⟨n9, rfl, hc9, qn, hk9⟩
  have wU := aa hc9
  have zF := aa qn
  have rT := aa (fh.out.on hk9)
  clear hc9 qn hk9
  go_wp2
  go_ret
  refine ⟨n9, ah (by rw [ti.out]; simp), wU.out, (fun hx => ?_), rT.out⟩
  rw [zF.out (by rw [ti.out]; simpa using hx), ti.out]
  omega
theorem zT {h : Nat} (hP : pz h) (hA : DV h) (al : List Tr) (o3 : Option Addr) (c3 : Nat) (mR : al.length <= maxLen) (y : Tr) (p01 p02 p03 : Option Addr) (g01 g02 g03 : Nat) (cb n : Nat) (d : Int) (w : World) (r0 : (reads (iq cb) w h).ex y [.int .i64 y.k, .string y.s, .int .i64 y.n, .slice p01 y.l.length g01, .slice p02 y.ds.length g02, .slice p03 y.al.length g03]) (ra : RowOf (iq cb) w (reads (iq cb) w h).al 8 o3 al) (hc : Ctr w cb n) (hn : n <= 200) (h0 : -2 <= d) (h1 : d <= 12) :
 Calls Tryz.prog 153 #[.pointer (some ⟨cb, 0, none⟩), .iface 205 (.agg #[.int .i64 y.k, .string y.s, .int .i64 y.n, .slice p01 y.l.length g01, .slice p02 y.ds.length g02, .slice p03 y.al.length g03, .slice o3 al.length c3]), .int .i64 d] w (Cres cb n w (cD (bJ h).ex (aW h).ex [y] (d + 1) n && (cz al.length 1 6 && cD (fun a d => dY a && (bJ h).al a d) (aW h).al al (d + 1) (n + aB (aW h).ex [y]))) (aB (aW h).ex [y] + aB (aW h).al al)) := by
 have HP := aa hP
 have HC := aa hc
 have Di : cb < w.heap.size := ad hc
 have R0 := aa r0
 have HA := aa hA
 have RA := aa ra
 have OV := aa mR
 clear hP hc r0 hA ra mR
 have aq : Hid (Below w.heap.size w (w.alloc (.cells #[.int .i64 y.k, .string y.s, .int .i64 y.n, .slice p01 y.l.length g01, .slice p02 y.ds.length g02, .slice p03 y.al.length g03, .slice o3 al.length c3] 205))) := (U4 w).alloc U0 _
 have aF : Hid ((w.alloc (.cells #[.int .i64 y.k, .string y.s, .int .i64 y.n, .slice p01 y.l.length g01, .slice p02 y.ds.length g02, .slice p03 y.al.length g03, .slice o3 al.length c3] 205)).heap[w.heap.size]? = some (.cells #[.int .i64 y.k, .string y.s, .int .i64 y.n, .slice p01 y.l.length g01, .slice p02 y.ds.length g02, .slice p03 y.al.length g03, .slice o3 al.length c3] 205 (0, 0))) := heap_alloc_new w _
 have E5 := GI
 have Fq := Ha
 have Hz := Gk
 have Jl := GF
 have KX := GR
 have L3 := FU
 have Ok := GL
 cases ht : cD (bJ h).ex (aW h).ex [y] (d + 1) n
 ·have HT := aa ht
  clear ht
  have qa : Hid (Below (w.alloc (.cells #[.int .i64 y.k, .string y.s, .int .i64 y.n, .slice p01 y.l.length g01, .slice p02 y.ds.length g02, .slice p03 y.al.length g03, .slice o3 al.length c3] 205)).heap.size (w.alloc (.cells #[.int .i64 y.k, .string y.s, .int .i64 y.n, .slice p01 y.l.length g01, .slice p02 y.ds.length g02, .slice p03 y.al.length g03, .slice o3 al.length c3] 205)) ((w.alloc (.cells #[.int .i64 y.k, .string y.s, .int .i64 y.n, .slice p01 y.l.length g01, .slice p02 y.ds.length g02, .slice p03 y.al.length g03, .slice o3 al.length c3] 205)).alloc (.cells #[.int .i64 y.k, .string y.s, .int .i64 y.n, .slice p01 y.l.length g01, .slice p02 y.ds.length g02, .slice p03 y.al.length g03] 34))) := (U4 _).alloc U0 _
  have bD := aa (aq.out.trans (qa.out.mono aq.out.size))
  have dh : Hid (RowOf (iq cb) ((w.alloc (.cells #[.int .i64 y.k, .string y.s, .int .i64 y.n, .slice p01 y.l.length g01, .slice p02 y.ds.length g02, .slice p03 y.al.length g03, .slice o3 al.length c3] 205)).alloc (.cells #[.int .i64 y.k, .string y.s, .int .i64 y.n, .slice p01 y.l.length g01, .slice p02 y.ds.length g02, .slice p03 y.al.length g03] 34)) (reads (iq cb) ((w.alloc (.cells #[.int .i64 y.k, .string y.s, .int .i64 y.n, .slice p01 y.l.length g01, .slice p02 y.ds.length g02, .slice p03 y.al.length g03, .slice o3 al.length c3] 205)).alloc (.cells #[.int .i64 y.k, .string y.s, .int .i64 y.n, .slice p01 y.l.length g01, .slice p02 y.ds.length g02, .slice p03 y.al.length g03] 34)) h).ex 6 (some ⟨w.heap.size + 1, 0, none⟩) [y]) :=
   (lh ((ap bD.out h).1 _ _ R0.out)).row (heap_alloc2_new w _ _) (by show w.heap.size + 1 ≠ cb; have := aq.out.size; omega)
  go_enter Tryz.func153, Tryz.ntmps153
  go_wp2_with fail
  refine (HP.out [y] _ 1 _ cb n d dh.out (show 1 <= maxLen by decide) (HC.out.later bD.out) hn (by omega) (by omega)).mono ?_
  rintro e w9 ⟨n9, rfl, hc9, qn, hk9⟩
  have wU := aa hc9
  have zF := aa qn
  have rT := aa ((Kp.of (cb := cb) bD.out).on hk9)
  have PD := aa ((hk9.block w.heap.size (Nat.lt_of_lt_of_le (ad aF.out) qa.out.size) (by omega)).trans ((qa.out.block w.heap.size (ad aF.out)).trans aF.out))
  clear hc9 qn hk9
  rw [HT.out]
  go_wp2
  go_ret
  exact ⟨n9, ah (by simp), wU.out, (fun hx => by simp at hx), rT.out⟩
 ·have HT := aa ht
  have iL : n + aB (aW h).ex [y] <= 200 := by unfold cD at ht; rw [Bool.and_eq_true] at ht; exact of_decide_eq_true ht.2
  clear ht
  have qa : Hid (Below (w.alloc (.cells #[.int .i64 y.k, .string y.s, .int .i64 y.n, .slice p01 y.l.length g01, .slice p02 y.ds.length g02, .slice p03 y.al.length g03, .slice o3 al.length c3] 205)).heap.size (w.alloc (.cells #[.int .i64 y.k, .string y.s, .int .i64 y.n, .slice p01 y.l.length g01, .slice p02 y.ds.length g02, .slice p03 y.al.length g03, .slice o3 al.length c3] 205)) ((w.alloc (.cells #[.int .i64 y.k, .string y.s, .int .i64 y.n, .slice p01 y.l.length g01, .slice p02 y.ds.length g02, .slice p03 y.al.length g03, .slice o3 al.length c3] 205)).alloc (.cells #[.int .i64 y.k, .string y.s, .int .i64 y.n, .slice p01 y.l.length g01, .slice p02 y.ds.length g02, .slice p03 y.al.length g03] 34))) := (U4 _).alloc U0 _
  have bD := aa (aq.out.trans (qa.out.mono aq.out.size))
  have dh : Hid (RowOf (iq cb) ((w.alloc (.cells #[.int .i64 y.k, .string y.s, .int .i64 y.n, .slice p01 y.l.length g01, .slice p02 y.ds.length g02, .slice p03 y.al.length g03, .slice o3 al.length c3] 205)).alloc (.cells #[.int .i64 y.k, .string y.s, .int .i64 y.n, .slice p01 y.l.length g01, .slice p02 y.ds.length g02, .slice p03 y.al.length g03] 34)) (reads (iq cb) ((w.alloc (.cells #[.int .i64 y.k, .string y.s, .int .i64 y.n, .slice p01 y.l.length g01, .slice p02 y.ds.length g02, .slice p03 y.al.length g03, .slice o3 al.length c3] 205)).alloc (.cells #[.int .i64 y.k, .string y.s, .int .i64 y.n, .slice p01 y.l.length g01, .slice p02 y.ds.length g02, .slice p03 y.al.length g03] 34)) h).ex 6 (some ⟨w.heap.size + 1, 0, none⟩) [y]) :=
   (lh ((ap bD.out h).1 _ _ R0.out)).row (heap_alloc2_new w _ _) (by show w.heap.size + 1 ≠ cb; have := aq.out.size; omega)
  go_enter Tryz.func153, Tryz.ntmps153
  go_wp2_with fail
  refine (HP.out [y] _ 1 _ cb n d dh.out (show 1 <= maxLen by decide) (HC.out.later bD.out) hn (by omega) (by omega)).mono ?_
  rintro e w9 ⟨n9, rfl, hc9, qn, hk9⟩
  have wU := aa hc9
  have zF := aa qn
  have rT := aa ((Kp.of (cb := cb) bD.out).on hk9)
  have PD := aa ((hk9.block w.heap.size (Nat.lt_of_lt_of_le (ad aF.out) qa.out.size) (by omega)).trans ((qa.out.block w.heap.size (ad aF.out)).trans aF.out))
  clear hc9 qn hk9
  rw [HT.out]
  have Cw := zF.out HT.out
  have ti := aa Cw
  have qn : n9 <= 200 := by omega
  clear Cw
  have x6 := cell_of PD.out 6
  simp only [U7, U8, U9] at x6
  have st := rT.out.stays
  go_wp2_with fail
  refine (HA.out al o3 c3 _ cb n9 d (RA.out.frame st (fun _ h => h) (bm st (fun _ h => h) h).2.2) OV.out wU.out qn (by omega) (by omega)).mono ?_
  rintro e w8 ⟨n8, rfl, J3, hn8, DE⟩
  have MG := aa J3
  have SE := aa hn8
  have K3 := aa (rT.out.on DE)
  clear J3 hn8 DE st
  go_wp2
  go_ret
  refine ⟨n8, ah (by rw [ti.out]; simp), MG.out, (fun hx => ?_), K3.out⟩
  rw [SE.out (by rw [ti.out]; simpa using hx), ti.out]
  omega
end Go.Proofs.YtfomndilhlgikajGreatDoor
