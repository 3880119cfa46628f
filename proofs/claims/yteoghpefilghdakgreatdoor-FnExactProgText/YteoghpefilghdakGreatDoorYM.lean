/- The program's formOk of what has parts. -/
import Derived.Test.YteoghpefilghdakGreatDoorYL
namespace Go.Proofs.YteoghpefilghdakGreatDoor
open Go.ChangeShapes Go.WideShapes Go.ChangeAt Go.RowKit

set_option maxHeartbeats 1000000 in
set_option maxRecDepth 100000 in
theorem formOk_4 {h : Nat} (hP : ChPs h) (y z : Tr) (p01 p02 p03 : Option Addr) (g01 g02 g03 : Nat) (p11 p12 p13 : Option Addr) (g11 g12 g13 : Nat) (cb n : Nat) (d : Int) (w : World) (r0 : (reads (NeK cb) w h).ex y [.int .i64 y.k, .string y.s, .int .i64 y.n, .slice p01 y.l.length g01, .slice p02 y.ds.length g02, .slice p03 y.al.length g03]) (r1 : (reads (NeK cb) w h).ex z [.int .i64 z.k, .string z.s, .int .i64 z.n, .slice p11 z.l.length g11, .slice p12 z.ds.length g12, .slice p13 z.al.length g13]) (hc : Ctr w cb n) (hn : n ≤ 200) (h0 : -2 ≤ d) (h1 : d ≤ 12) :
    Calls Tryz.prog 143 #[.pointer (some ⟨cb, 0, none⟩), .iface 162 (.agg #[.int .i64 y.k, .string y.s, .int .i64 y.n, .slice p01 y.l.length g01, .slice p02 y.ds.length g02, .slice p03 y.al.length g03, .int .i64 z.k, .string z.s, .int .i64 z.n, .slice p11 z.l.length g11, .slice p12 z.ds.length g12, .slice p13 z.al.length g13]), .int .i64 d] w (Cres cb n w (goodB (okz h).ex (cnt h).ex [y, z] (d + 1) n) (sumZ (cnt h).ex [y, z])) := by
  have HP := hide hP
  have HC := hide hc
  have hcb : cb < w.heap.size := heap_lt hc
  have R0 := hide r0
  have R1 := hide r1
  clear hP hc r0 r1
  have HB0 : Hid (Below w.heap.size w (w.alloc (.cells #[.int .i64 y.k, .string y.s, .int .i64 y.n, .slice p01 y.l.length g01, .slice p02 y.ds.length g02, .slice p03 y.al.length g03, .int .i64 z.k, .string z.s, .int .i64 z.n, .slice p11 z.l.length g11, .slice p12 z.ds.length g12, .slice p13 z.al.length g13] 162))) := (Below.refl _ w).alloc (Nat.le_refl _) _
  have HX0 : Hid ((w.alloc (.cells #[.int .i64 y.k, .string y.s, .int .i64 y.n, .slice p01 y.l.length g01, .slice p02 y.ds.length g02, .slice p03 y.al.length g03, .int .i64 z.k, .string z.s, .int .i64 z.n, .slice p11 z.l.length g11, .slice p12 z.ds.length g12, .slice p13 z.al.length g13] 162)).heap[w.heap.size]? = some (.cells #[.int .i64 y.k, .string y.s, .int .i64 y.n, .slice p01 y.l.length g01, .slice p02 y.ds.length g02, .slice p03 y.al.length g03, .int .i64 z.k, .string z.s, .int .i64 z.n, .slice p11 z.l.length g11, .slice p12 z.ds.length g12, .slice p13 z.al.length g13] 162 (0, 0))) := heap_alloc_new w _
  have ta1 := ta_4_1
  have ta2 := ta_4_2
  have ta3 := ta_4_3
  have ta4 := ta_4_4
  have HA1 : Hid (Below (w.alloc (.cells #[.int .i64 y.k, .string y.s, .int .i64 y.n, .slice p01 y.l.length g01, .slice p02 y.ds.length g02, .slice p03 y.al.length g03, .int .i64 z.k, .string z.s, .int .i64 z.n, .slice p11 z.l.length g11, .slice p12 z.ds.length g12, .slice p13 z.al.length g13] 162)).heap.size (w.alloc (.cells #[.int .i64 y.k, .string y.s, .int .i64 y.n, .slice p01 y.l.length g01, .slice p02 y.ds.length g02, .slice p03 y.al.length g03, .int .i64 z.k, .string z.s, .int .i64 z.n, .slice p11 z.l.length g11, .slice p12 z.ds.length g12, .slice p13 z.al.length g13] 162)) ((w.alloc (.cells #[.int .i64 y.k, .string y.s, .int .i64 y.n, .slice p01 y.l.length g01, .slice p02 y.ds.length g02, .slice p03 y.al.length g03, .int .i64 z.k, .string z.s, .int .i64 z.n, .slice p11 z.l.length g11, .slice p12 z.ds.length g12, .slice p13 z.al.length g13] 162)).alloc (.cells #[.int .i64 y.k, .string y.s, .int .i64 y.n, .slice p01 y.l.length g01, .slice p02 y.ds.length g02, .slice p03 y.al.length g03, .int .i64 z.k, .string z.s, .int .i64 z.n, .slice p11 z.l.length g11, .slice p12 z.ds.length g12, .slice p13 z.al.length g13] 47))) := (Below.refl _ _).alloc (Nat.le_refl _) _
  have HB2 := hide (HB0.out.trans (HA1.out.mono HB0.out.size))
  have HROW : Hid (RowOf (NeK cb) ((w.alloc (.cells #[.int .i64 y.k, .string y.s, .int .i64 y.n, .slice p01 y.l.length g01, .slice p02 y.ds.length g02, .slice p03 y.al.length g03, .int .i64 z.k, .string z.s, .int .i64 z.n, .slice p11 z.l.length g11, .slice p12 z.ds.length g12, .slice p13 z.al.length g13] 162)).alloc (.cells #[.int .i64 y.k, .string y.s, .int .i64 y.n, .slice p01 y.l.length g01, .slice p02 y.ds.length g02, .slice p03 y.al.length g03, .int .i64 z.k, .string z.s, .int .i64 z.n, .slice p11 z.l.length g11, .slice p12 z.ds.length g12, .slice p13 z.al.length g13] 47)) (reads (NeK cb) ((w.alloc (.cells #[.int .i64 y.k, .string y.s, .int .i64 y.n, .slice p01 y.l.length g01, .slice p02 y.ds.length g02, .slice p03 y.al.length g03, .int .i64 z.k, .string z.s, .int .i64 z.n, .slice p11 z.l.length g11, .slice p12 z.ds.length g12, .slice p13 z.al.length g13] 162)).alloc (.cells #[.int .i64 y.k, .string y.s, .int .i64 y.n, .slice p01 y.l.length g01, .slice p02 y.ds.length g02, .slice p03 y.al.length g03, .int .i64 z.k, .string z.s, .int .i64 z.n, .slice p11 z.l.length g11, .slice p12 z.ds.length g12, .slice p13 z.al.length g13] 47)) h).ex 6 (some ⟨w.heap.size + 1, 0, none⟩) [y, z]) :=
    (filled2 ((reads_later HB2.out h).1 _ _ R0.out) ((reads_later HB2.out h).1 _ _ R1.out)).row (heap_alloc2_new w _ _) (by show w.heap.size + 1 ≠ cb; have := HB0.out.size; omega)
  go_enter Tryz.func143, Tryz.ntmps143
  go_wp2_with fail
  refine (HP.out [y, z] _ 2 _ cb n d HROW.out (show 2 ≤ maxLen by decide) (HC.out.later HB2.out) hn (by omega) (by omega)).mono ?_
  rintro e w9 ⟨n9, rfl, hc9, hn9, hk9⟩
  have HC9 := hide hc9
  have HN9 := hide hn9
  have HK9 := hide ((Kp.of (cb := cb) HB2.out).on hk9)
  clear hc9 hn9 hk9
  go_wp2
  go_ret
  exact ⟨n9, rfl, HC9.out, HN9.out, HK9.out⟩

set_option maxHeartbeats 1000000 in
set_option maxRecDepth 100000 in
theorem formOk_8 {h : Nat} (hP : ChPs h) (y z q : Tr) (p01 p02 p03 : Option Addr) (g01 g02 g03 : Nat) (p11 p12 p13 : Option Addr) (g11 g12 g13 : Nat) (p21 p22 p23 : Option Addr) (g21 g22 g23 : Nat) (cb n : Nat) (d : Int) (w : World) (r0 : (reads (NeK cb) w h).ex y [.int .i64 y.k, .string y.s, .int .i64 y.n, .slice p01 y.l.length g01, .slice p02 y.ds.length g02, .slice p03 y.al.length g03]) (r1 : (reads (NeK cb) w h).ex z [.int .i64 z.k, .string z.s, .int .i64 z.n, .slice p11 z.l.length g11, .slice p12 z.ds.length g12, .slice p13 z.al.length g13]) (r2 : (reads (NeK cb) w h).ex q [.int .i64 q.k, .string q.s, .int .i64 q.n, .slice p21 q.l.length g21, .slice p22 q.ds.length g22, .slice p23 q.al.length g23]) (hc : Ctr w cb n) (hn : n ≤ 200) (h0 : -2 ≤ d) (h1 : d ≤ 12) :
    Calls Tryz.prog 143 #[.pointer (some ⟨cb, 0, none⟩), .iface 172 (.agg #[.int .i64 y.k, .string y.s, .int .i64 y.n, .slice p01 y.l.length g01, .slice p02 y.ds.length g02, .slice p03 y.al.length g03, .int .i64 z.k, .string z.s, .int .i64 z.n, .slice p11 z.l.length g11, .slice p12 z.ds.length g12, .slice p13 z.al.length g13, .int .i64 q.k, .string q.s, .int .i64 q.n, .slice p21 q.l.length g21, .slice p22 q.ds.length g22, .slice p23 q.al.length g23]), .int .i64 d] w (Cres cb n w (goodB (okz h).ex (cnt h).ex [y, z, q] (d + 1) n) (sumZ (cnt h).ex [y, z, q])) := by
  have HP := hide hP
  have HC := hide hc
  have hcb : cb < w.heap.size := heap_lt hc
  have R0 := hide r0
  have R1 := hide r1
  have R2 := hide r2
  clear hP hc r0 r1 r2
  have HB0 : Hid (Below w.heap.size w (w.alloc (.cells #[.int .i64 y.k, .string y.s, .int .i64 y.n, .slice p01 y.l.length g01, .slice p02 y.ds.length g02, .slice p03 y.al.length g03, .int .i64 z.k, .string z.s, .int .i64 z.n, .slice p11 z.l.length g11, .slice p12 z.ds.length g12, .slice p13 z.al.length g13, .int .i64 q.k, .string q.s, .int .i64 q.n, .slice p21 q.l.length g21, .slice p22 q.ds.length g22, .slice p23 q.al.length g23] 172))) := (Below.refl _ w).alloc (Nat.le_refl _) _
  have HX0 : Hid ((w.alloc (.cells #[.int .i64 y.k, .string y.s, .int .i64 y.n, .slice p01 y.l.length g01, .slice p02 y.ds.length g02, .slice p03 y.al.length g03, .int .i64 z.k, .string z.s, .int .i64 z.n, .slice p11 z.l.length g11, .slice p12 z.ds.length g12, .slice p13 z.al.length g13, .int .i64 q.k, .string q.s, .int .i64 q.n, .slice p21 q.l.length g21, .slice p22 q.ds.length g22, .slice p23 q.al.length g23] 172)).heap[w.heap.size]? = some (.cells #[.int .i64 y.k, .string y.s, .int .i64 y.n, .slice p01 y.l.length g01, .slice p02 y.ds.length g02, .slice p03 y.al.length g03, .int .i64 z.k, .string z.s, .int .i64 z.n, .slice p11 z.l.length g11, .slice p12 z.ds.length g12, .slice p13 z.al.length g13, .int .i64 q.k, .string q.s, .int .i64 q.n, .slice p21 q.l.length g21, .slice p22 q.ds.length g22, .slice p23 q.al.length g23] 172 (0, 0))) := heap_alloc_new w _
  have ta1 := ta_8_1
  have ta2 := ta_8_2
  have ta3 := ta_8_3
  have ta4 := ta_8_4
  have ta5 := ta_8_5
  have ta6 := ta_8_6
  have ta7 := ta_8_7
  have ta8 := ta_8_8
  have HA1 : Hid (Below (w.alloc (.cells #[.int .i64 y.k, .string y.s, .int .i64 y.n, .slice p01 y.l.length g01, .slice p02 y.ds.length g02, .slice p03 y.al.length g03, .int .i64 z.k, .string z.s, .int .i64 z.n, .slice p11 z.l.length g11, .slice p12 z.ds.length g12, .slice p13 z.al.length g13, .int .i64 q.k, .string q.s, .int .i64 q.n, .slice p21 q.l.length g21, .slice p22 q.ds.length g22, .slice p23 q.al.length g23] 172)).heap.size (w.alloc (.cells #[.int .i64 y.k, .string y.s, .int .i64 y.n, .slice p01 y.l.length g01, .slice p02 y.ds.length g02, .slice p03 y.al.length g03, .int .i64 z.k, .string z.s, .int .i64 z.n, .slice p11 z.l.length g11, .slice p12 z.ds.length g12, .slice p13 z.al.length g13, .int .i64 q.k, .string q.s, .int .i64 q.n, .slice p21 q.l.length g21, .slice p22 q.ds.length g22, .slice p23 q.al.length g23] 172)) ((w.alloc (.cells #[.int .i64 y.k, .string y.s, .int .i64 y.n, .slice p01 y.l.length g01, .slice p02 y.ds.length g02, .slice p03 y.al.length g03, .int .i64 z.k, .string z.s, .int .i64 z.n, .slice p11 z.l.length g11, .slice p12 z.ds.length g12, .slice p13 z.al.length g13, .int .i64 q.k, .string q.s, .int .i64 q.n, .slice p21 q.l.length g21, .slice p22 q.ds.length g22, .slice p23 q.al.length g23] 172)).alloc (.cells #[.int .i64 y.k, .string y.s, .int .i64 y.n, .slice p01 y.l.length g01, .slice p02 y.ds.length g02, .slice p03 y.al.length g03, .int .i64 z.k, .string z.s, .int .i64 z.n, .slice p11 z.l.length g11, .slice p12 z.ds.length g12, .slice p13 z.al.length g13, .int .i64 q.k, .string q.s, .int .i64 q.n, .slice p21 q.l.length g21, .slice p22 q.ds.length g22, .slice p23 q.al.length g23] 47))) := (Below.refl _ _).alloc (Nat.le_refl _) _
  have HB2 := hide (HB0.out.trans (HA1.out.mono HB0.out.size))
  have HROW : Hid (RowOf (NeK cb) ((w.alloc (.cells #[.int .i64 y.k, .string y.s, .int .i64 y.n, .slice p01 y.l.length g01, .slice p02 y.ds.length g02, .slice p03 y.al.length g03, .int .i64 z.k, .string z.s, .int .i64 z.n, .slice p11 z.l.length g11, .slice p12 z.ds.length g12, .slice p13 z.al.length g13, .int .i64 q.k, .string q.s, .int .i64 q.n, .slice p21 q.l.length g21, .slice p22 q.ds.length g22, .slice p23 q.al.length g23] 172)).alloc (.cells #[.int .i64 y.k, .string y.s, .int .i64 y.n, .slice p01 y.l.length g01, .slice p02 y.ds.length g02, .slice p03 y.al.length g03, .int .i64 z.k, .string z.s, .int .i64 z.n, .slice p11 z.l.length g11, .slice p12 z.ds.length g12, .slice p13 z.al.length g13, .int .i64 q.k, .string q.s, .int .i64 q.n, .slice p21 q.l.length g21, .slice p22 q.ds.length g22, .slice p23 q.al.length g23] 47)) (reads (NeK cb) ((w.alloc (.cells #[.int .i64 y.k, .string y.s, .int .i64 y.n, .slice p01 y.l.length g01, .slice p02 y.ds.length g02, .slice p03 y.al.length g03, .int .i64 z.k, .string z.s, .int .i64 z.n, .slice p11 z.l.length g11, .slice p12 z.ds.length g12, .slice p13 z.al.length g13, .int .i64 q.k, .string q.s, .int .i64 q.n, .slice p21 q.l.length g21, .slice p22 q.ds.length g22, .slice p23 q.al.length g23] 172)).alloc (.cells #[.int .i64 y.k, .string y.s, .int .i64 y.n, .slice p01 y.l.length g01, .slice p02 y.ds.length g02, .slice p03 y.al.length g03, .int .i64 z.k, .string z.s, .int .i64 z.n, .slice p11 z.l.length g11, .slice p12 z.ds.length g12, .slice p13 z.al.length g13, .int .i64 q.k, .string q.s, .int .i64 q.n, .slice p21 q.l.length g21, .slice p22 q.ds.length g22, .slice p23 q.al.length g23] 47)) h).ex 6 (some ⟨w.heap.size + 1, 0, none⟩) [y, z, q]) :=
    (filled3 ((reads_later HB2.out h).1 _ _ R0.out) ((reads_later HB2.out h).1 _ _ R1.out) ((reads_later HB2.out h).1 _ _ R2.out)).row (heap_alloc2_new w _ _) (by show w.heap.size + 1 ≠ cb; have := HB0.out.size; omega)
  go_enter Tryz.func143, Tryz.ntmps143
  go_wp2_with fail
  refine (HP.out [y, z, q] _ 3 _ cb n d HROW.out (show 3 ≤ maxLen by decide) (HC.out.later HB2.out) hn (by omega) (by omega)).mono ?_
  rintro e w9 ⟨n9, rfl, hc9, hn9, hk9⟩
  have HC9 := hide hc9
  have HN9 := hide hn9
  have HK9 := hide ((Kp.of (cb := cb) HB2.out).on hk9)
  clear hc9 hn9 hk9
  go_wp2
  go_ret
  exact ⟨n9, rfl, HC9.out, HN9.out, HK9.out⟩

set_option maxHeartbeats 1000000 in
set_option maxRecDepth 100000 in
theorem formOk_5 {h : Nat} (hP : ChPs h) (s : ByteArray) (hs : s.size ≤ maxLen) (y : Tr) (p01 p02 p03 : Option Addr) (g01 g02 g03 : Nat) (cb n : Nat) (d : Int) (w : World) (r0 : (reads (NeK cb) w h).ex y [.int .i64 y.k, .string y.s, .int .i64 y.n, .slice p01 y.l.length g01, .slice p02 y.ds.length g02, .slice p03 y.al.length g03]) (hc : Ctr w cb n) (hn : n ≤ 200) (h0 : -2 ≤ d) (h1 : d ≤ 12) :
    Calls Tryz.prog 143 #[.pointer (some ⟨cb, 0, none⟩), .iface 165 (.agg #[.string s, .int .i64 y.k, .string y.s, .int .i64 y.n, .slice p01 y.l.length g01, .slice p02 y.ds.length g02, .slice p03 y.al.length g03]), .int .i64 d] w (Cres cb n w (parB s && goodB (okz h).ex (cnt h).ex [y] (d + 1) n) (sumZ (cnt h).ex [y])) := by
  have HP := hide hP
  have HC := hide hc
  have hcb : cb < w.heap.size := heap_lt hc
  have R0 := hide r0
  clear hP hc r0
  have HB0 : Hid (Below w.heap.size w (w.alloc (.cells #[.string s, .int .i64 y.k, .string y.s, .int .i64 y.n, .slice p01 y.l.length g01, .slice p02 y.ds.length g02, .slice p03 y.al.length g03] 165))) := (Below.refl _ w).alloc (Nat.le_refl _) _
  have HX0 : Hid ((w.alloc (.cells #[.string s, .int .i64 y.k, .string y.s, .int .i64 y.n, .slice p01 y.l.length g01, .slice p02 y.ds.length g02, .slice p03 y.al.length g03] 165)).heap[w.heap.size]? = some (.cells #[.string s, .int .i64 y.k, .string y.s, .int .i64 y.n, .slice p01 y.l.length g01, .slice p02 y.ds.length g02, .slice p03 y.al.length g03] 165 (0, 0))) := heap_alloc_new w _
  have ta1 := ta_5_1
  have ta2 := ta_5_2
  have ta3 := ta_5_3
  have ta4 := ta_5_4
  have ta5 := ta_5_5
  cases ht : parB s
  · have HT := hide ht
    clear ht
    go_enter Tryz.func143, Tryz.ntmps143
    go_wp2_with fail
    refine (parOk_any s _ hs).mono ?_
    rintro e w1 ⟨rfl, hb⟩
    rw [HT.out]
    have HB1 := hide (HB0.out.trans (hb.mono HB0.out.size))
    have HX1 := hide ((hb.block w.heap.size (heap_lt HX0.out)).trans HX0.out)
    clear hb
    go_wp2
    go_ret
    exact ⟨n, ret_bool (by simp), HC.out.later HB1.out, (fun hx => by simp at hx), Kp.of HB1.out⟩
  · have HT := hide ht
    clear ht
    go_enter Tryz.func143, Tryz.ntmps143
    go_wp2_with fail
    refine (parOk_any s _ hs).mono ?_
    rintro e w1 ⟨rfl, hb⟩
    rw [HT.out]
    have HB1 := hide (HB0.out.trans (hb.mono HB0.out.size))
    have HX1 := hide ((hb.block w.heap.size (heap_lt HX0.out)).trans HX0.out)
    clear hb
    have x1 := cell_of HX1.out 1
    have x2 := cell_of HX1.out 2
    have x3 := cell_of HX1.out 3
    have x4 := cell_of HX1.out 4
    have x5 := cell_of HX1.out 5
    have x6 := cell_of HX1.out 6
    simp only [List.getElem?_toArray, List.getElem?_cons_succ, List.getElem?_cons_zero] at x1 x2 x3 x4 x5 x6
    have HA1 : Hid (Below w1.heap.size w1 (w1.alloc (.cells #[.int .i64 y.k, .string y.s, .int .i64 y.n, .slice p01 y.l.length g01, .slice p02 y.ds.length g02, .slice p03 y.al.length g03] 47))) := (Below.refl _ _).alloc (Nat.le_refl _) _
    have HB2 := hide (HB1.out.trans (HA1.out.mono HB1.out.size))
    have HROW : Hid (RowOf (NeK cb) (w1.alloc (.cells #[.int .i64 y.k, .string y.s, .int .i64 y.n, .slice p01 y.l.length g01, .slice p02 y.ds.length g02, .slice p03 y.al.length g03] 47)) (reads (NeK cb) (w1.alloc (.cells #[.int .i64 y.k, .string y.s, .int .i64 y.n, .slice p01 y.l.length g01, .slice p02 y.ds.length g02, .slice p03 y.al.length g03] 47)) h).ex 6 (some ⟨w1.heap.size, 0, none⟩) [y]) :=
      (filled1 ((reads_later HB2.out h).1 _ _ R0.out)).row (heap_alloc_new _ _) (by show w1.heap.size ≠ cb; have := HB1.out.size; omega)
    go_wp2_with fail
    refine (HP.out [y] _ 1 _ cb n d HROW.out (show 1 ≤ maxLen by decide) (HC.out.later HB2.out) hn (by omega) (by omega)).mono ?_
    rintro e w9 ⟨n9, rfl, hc9, hn9, hk9⟩
    have HC9 := hide hc9
    have HN9 := hide hn9
    have HK9 := hide ((Kp.of (cb := cb) HB2.out).on hk9)
    clear hc9 hn9 hk9
    go_wp2
    go_ret
    exact ⟨n9, ret_bool (by simp), HC9.out, (fun hx => HN9.out (by simpa using hx)), HK9.out⟩

set_option maxHeartbeats 1000000 in
set_option maxRecDepth 100000 in
theorem formOk_9 {h : Nat} (hP : ChPs h) (s : ByteArray) (y z : Tr) (p01 p02 p03 : Option Addr) (g01 g02 g03 : Nat) (p11 p12 p13 : Option Addr) (g11 g12 g13 : Nat) (cb n : Nat) (d : Int) (w : World) (r0 : (reads (NeK cb) w h).ex y [.int .i64 y.k, .string y.s, .int .i64 y.n, .slice p01 y.l.length g01, .slice p02 y.ds.length g02, .slice p03 y.al.length g03]) (r1 : (reads (NeK cb) w h).ex z [.int .i64 z.k, .string z.s, .int .i64 z.n, .slice p11 z.l.length g11, .slice p12 z.ds.length g12, .slice p13 z.al.length g13]) (hc : Ctr w cb n) (hn : n ≤ 200) (h0 : -2 ≤ d) (h1 : d ≤ 12) :
    Calls Tryz.prog 143 #[.pointer (some ⟨cb, 0, none⟩), .iface 174 (.agg #[.string s, .int .i64 y.k, .string y.s, .int .i64 y.n, .slice p01 y.l.length g01, .slice p02 y.ds.length g02, .slice p03 y.al.length g03, .int .i64 z.k, .string z.s, .int .i64 z.n, .slice p11 z.l.length g11, .slice p12 z.ds.length g12, .slice p13 z.al.length g13]), .int .i64 d] w (Cres cb n w (opB s && goodB (okz h).ex (cnt h).ex [y, z] (d + 1) n) (sumZ (cnt h).ex [y, z])) := by
  have HP := hide hP
  have HC := hide hc
  have hcb : cb < w.heap.size := heap_lt hc
  have R0 := hide r0
  have R1 := hide r1
  clear hP hc r0 r1
  have HB0 : Hid (Below w.heap.size w (w.alloc (.cells #[.string s, .int .i64 y.k, .string y.s, .int .i64 y.n, .slice p01 y.l.length g01, .slice p02 y.ds.length g02, .slice p03 y.al.length g03, .int .i64 z.k, .string z.s, .int .i64 z.n, .slice p11 z.l.length g11, .slice p12 z.ds.length g12, .slice p13 z.al.length g13] 174))) := (Below.refl _ w).alloc (Nat.le_refl _) _
  have HX0 : Hid ((w.alloc (.cells #[.string s, .int .i64 y.k, .string y.s, .int .i64 y.n, .slice p01 y.l.length g01, .slice p02 y.ds.length g02, .slice p03 y.al.length g03, .int .i64 z.k, .string z.s, .int .i64 z.n, .slice p11 z.l.length g11, .slice p12 z.ds.length g12, .slice p13 z.al.length g13] 174)).heap[w.heap.size]? = some (.cells #[.string s, .int .i64 y.k, .string y.s, .int .i64 y.n, .slice p01 y.l.length g01, .slice p02 y.ds.length g02, .slice p03 y.al.length g03, .int .i64 z.k, .string z.s, .int .i64 z.n, .slice p11 z.l.length g11, .slice p12 z.ds.length g12, .slice p13 z.al.length g13] 174 (0, 0))) := heap_alloc_new w _
  have ta1 := ta_9_1
  have ta2 := ta_9_2
  have ta3 := ta_9_3
  have ta4 := ta_9_4
  have ta5 := ta_9_5
  have ta6 := ta_9_6
  have ta7 := ta_9_7
  have ta8 := ta_9_8
  have ta9 := ta_9_9
  cases ht : opB s
  · have HT := hide ht
    clear ht
    go_enter Tryz.func143, Tryz.ntmps143
    go_wp2_with fail
    refine (isOp_any s _).mono ?_
    rintro e w1 ⟨rfl, hb⟩
    rw [HT.out]
    have HB1 := HB0
    rw [← hb] at HB1
    have HX1 := HX0
    rw [← hb] at HX1
    clear hb
    go_wp2
    go_ret
    exact ⟨n, ret_bool (by simp), HC.out.later HB1.out, (fun hx => by simp at hx), Kp.of HB1.out⟩
  · have HT := hide ht
    clear ht
    go_enter Tryz.func143, Tryz.ntmps143
    go_wp2_with fail
    refine (isOp_any s _).mono ?_
    rintro e w1 ⟨rfl, hb⟩
    rw [HT.out]
    have HB1 := HB0
    rw [← hb] at HB1
    have HX1 := HX0
    rw [← hb] at HX1
    clear hb
    have x1 := cell_of HX1.out 1
    have x2 := cell_of HX1.out 2
    have x3 := cell_of HX1.out 3
    have x4 := cell_of HX1.out 4
    have x5 := cell_of HX1.out 5
    have x6 := cell_of HX1.out 6
    have x7 := cell_of HX1.out 7
    have x8 := cell_of HX1.out 8
    have x9 := cell_of HX1.out 9
    have x10 := cell_of HX1.out 10
    have x11 := cell_of HX1.out 11
    have x12 := cell_of HX1.out 12
    simp only [List.getElem?_toArray, List.getElem?_cons_succ, List.getElem?_cons_zero] at x1 x2 x3 x4 x5 x6 x7 x8 x9 x10 x11 x12
    have HA1 : Hid (Below w1.heap.size w1 (w1.alloc (.cells #[.int .i64 y.k, .string y.s, .int .i64 y.n, .slice p01 y.l.length g01, .slice p02 y.ds.length g02, .slice p03 y.al.length g03, .int .i64 z.k, .string z.s, .int .i64 z.n, .slice p11 z.l.length g11, .slice p12 z.ds.length g12, .slice p13 z.al.length g13] 47))) := (Below.refl _ _).alloc (Nat.le_refl _) _
    have HB2 := hide (HB1.out.trans (HA1.out.mono HB1.out.size))
    have HROW : Hid (RowOf (NeK cb) (w1.alloc (.cells #[.int .i64 y.k, .string y.s, .int .i64 y.n, .slice p01 y.l.length g01, .slice p02 y.ds.length g02, .slice p03 y.al.length g03, .int .i64 z.k, .string z.s, .int .i64 z.n, .slice p11 z.l.length g11, .slice p12 z.ds.length g12, .slice p13 z.al.length g13] 47)) (reads (NeK cb) (w1.alloc (.cells #[.int .i64 y.k, .string y.s, .int .i64 y.n, .slice p01 y.l.length g01, .slice p02 y.ds.length g02, .slice p03 y.al.length g03, .int .i64 z.k, .string z.s, .int .i64 z.n, .slice p11 z.l.length g11, .slice p12 z.ds.length g12, .slice p13 z.al.length g13] 47)) h).ex 6 (some ⟨w1.heap.size, 0, none⟩) [y, z]) :=
      (filled2 ((reads_later HB2.out h).1 _ _ R0.out) ((reads_later HB2.out h).1 _ _ R1.out)).row (heap_alloc_new _ _) (by show w1.heap.size ≠ cb; have := HB1.out.size; omega)
    go_wp2_with fail
    refine (HP.out [y, z] _ 2 _ cb n d HROW.out (show 2 ≤ maxLen by decide) (HC.out.later HB2.out) hn (by omega) (by omega)).mono ?_
    rintro e w9 ⟨n9, rfl, hc9, hn9, hk9⟩
    have HC9 := hide hc9
    have HN9 := hide hn9
    have HK9 := hide ((Kp.of (cb := cb) HB2.out).on hk9)
    clear hc9 hn9 hk9
    go_wp2
    go_ret
    exact ⟨n9, ret_bool (by simp), HC9.out, (fun hx => HN9.out (by simpa using hx)), HK9.out⟩

set_option maxHeartbeats 1000000 in
set_option maxRecDepth 100000 in
theorem formOk_6 {h : Nat} (hP : ChPs h) (hD : ChDs h) (ds : List Tr) (o2 : Option Addr) (c2 : Nat) (hdl : ds.length ≤ maxLen) (y : Tr) (p01 p02 p03 : Option Addr) (g01 g02 g03 : Nat) (cb n : Nat) (d : Int) (w : World) (r0 : (reads (NeK cb) w h).ex y [.int .i64 y.k, .string y.s, .int .i64 y.n, .slice p01 y.l.length g01, .slice p02 y.ds.length g02, .slice p03 y.al.length g03]) (rd : RowOf (NeK cb) w (reads (NeK cb) w h).de 9 o2 ds) (hc : Ctr w cb n) (hn : n ≤ 200) (h0 : -2 ≤ d) (h1 : d ≤ 12) :
    Calls Tryz.prog 143 #[.pointer (some ⟨cb, 0, none⟩), .iface 167 (.agg #[.slice o2 ds.length c2, .int .i64 y.k, .string y.s, .int .i64 y.n, .slice p01 y.l.length g01, .slice p02 y.ds.length g02, .slice p03 y.al.length g03]), .int .i64 d] w (Cres cb n w ((decsB (okz h).de ds 6 (d + 1) && decide (n + sumZ (cnt h).de ds ≤ 200)) && goodB (okz h).ex (cnt h).ex [y] (d + 1) (n + sumZ (cnt h).de ds)) (sumZ (cnt h).de ds + sumZ (cnt h).ex [y])) := by
  have HP := hide hP
  have HC := hide hc
  have hcb : cb < w.heap.size := heap_lt hc
  have R0 := hide r0
  have HD := hide hD
  have RD := hide rd
  have HDL := hide hdl
  clear hP hc r0 hD rd hdl
  have HB0 : Hid (Below w.heap.size w (w.alloc (.cells #[.slice o2 ds.length c2, .int .i64 y.k, .string y.s, .int .i64 y.n, .slice p01 y.l.length g01, .slice p02 y.ds.length g02, .slice p03 y.al.length g03] 167))) := (Below.refl _ w).alloc (Nat.le_refl _) _
  have HX0 : Hid ((w.alloc (.cells #[.slice o2 ds.length c2, .int .i64 y.k, .string y.s, .int .i64 y.n, .slice p01 y.l.length g01, .slice p02 y.ds.length g02, .slice p03 y.al.length g03] 167)).heap[w.heap.size]? = some (.cells #[.slice o2 ds.length c2, .int .i64 y.k, .string y.s, .int .i64 y.n, .slice p01 y.l.length g01, .slice p02 y.ds.length g02, .slice p03 y.al.length g03] 167 (0, 0))) := heap_alloc_new w _
  have ta1 := ta_6_1
  have ta2 := ta_6_2
  have ta3 := ta_6_3
  have ta4 := ta_6_4
  have ta5 := ta_6_5
  have ta6 := ta_6_6
  cases ht : (decsB (okz h).de ds 6 (d + 1) && decide (n + sumZ (cnt h).de ds ≤ 200))
  · have HT := hide ht
    clear ht
    go_enter Tryz.func143, Tryz.ntmps143
    go_wp2_with fail
    refine (HD.out ds o2 c2 _ cb n 6 (d + 1) (RD.out.later HB0.out (reads_later HB0.out h).2.1) HDL.out (HC.out.later HB0.out) hn (by omega) (by omega) (by omega) (by omega)).mono ?_
    rintro e w1 ⟨n1, rfl, hc1, hn1, hk1⟩
    rw [HT.out]
    have HC1 := hide hc1
    have HN1 := hide hn1
    have HK1 := hide ((Kp.of (cb := cb) HB0.out).on hk1)
    have HX1 := hide ((hk1.block w.heap.size (heap_lt HX0.out) (by omega)).trans HX0.out)
    clear hc1 hn1 hk1
    go_wp2
    go_ret
    exact ⟨n1, ret_bool (by simp), HC1.out, (fun hx => by simp at hx), HK1.out⟩
  · have HT := hide ht
    have hle : n + sumZ (cnt h).de ds ≤ 200 := by rw [Bool.and_eq_true] at ht; exact of_decide_eq_true ht.2
    clear ht
    go_enter Tryz.func143, Tryz.ntmps143
    go_wp2_with fail
    refine (HD.out ds o2 c2 _ cb n 6 (d + 1) (RD.out.later HB0.out (reads_later HB0.out h).2.1) HDL.out (HC.out.later HB0.out) hn (by omega) (by omega) (by omega) (by omega)).mono ?_
    rintro e w1 ⟨n1, rfl, hc1, hn1, hk1⟩
    rw [HT.out]
    have HC1 := hide hc1
    have HN1 := hide hn1
    have HK1 := hide ((Kp.of (cb := cb) HB0.out).on hk1)
    have HX1 := hide ((hk1.block w.heap.size (heap_lt HX0.out) (by omega)).trans HX0.out)
    clear hc1 hn1 hk1
    have hne1 := HN1.out HT.out
    have HNE := hide hne1
    have hn1 : n1 ≤ 200 := by omega
    clear hne1
    have x1 := cell_of HX1.out 1
    have x2 := cell_of HX1.out 2
    have x3 := cell_of HX1.out 3
    have x4 := cell_of HX1.out 4
    have x5 := cell_of HX1.out 5
    have x6 := cell_of HX1.out 6
    simp only [List.getElem?_toArray, List.getElem?_cons_succ, List.getElem?_cons_zero] at x1 x2 x3 x4 x5 x6
    have HA1 : Hid (Below w1.heap.size w1 (w1.alloc (.cells #[.int .i64 y.k, .string y.s, .int .i64 y.n, .slice p01 y.l.length g01, .slice p02 y.ds.length g02, .slice p03 y.al.length g03] 47))) := (Below.refl _ _).alloc (Nat.le_refl _) _
    have HK2 := hide (HK1.out.then HA1.out)
    have HROW : Hid (RowOf (NeK cb) (w1.alloc (.cells #[.int .i64 y.k, .string y.s, .int .i64 y.n, .slice p01 y.l.length g01, .slice p02 y.ds.length g02, .slice p03 y.al.length g03] 47)) (reads (NeK cb) (w1.alloc (.cells #[.int .i64 y.k, .string y.s, .int .i64 y.n, .slice p01 y.l.length g01, .slice p02 y.ds.length g02, .slice p03 y.al.length g03] 47)) h).ex 6 (some ⟨w1.heap.size, 0, none⟩) [y]) :=
      (filled1 ((reads_frame HK2.out.stays (fun _ h => h) h).1 _ _ R0.out)).row (heap_alloc_new _ _) (by show w1.heap.size ≠ cb; have := HK1.out.size; omega)
    go_wp2_with fail
    refine (HP.out [y] _ 1 _ cb n1 d HROW.out (show 1 ≤ maxLen by decide) (HC1.out.later HA1.out) hn1 (by omega) (by omega)).mono ?_
    rintro e w9 ⟨n9, rfl, hc9, hn9, hk9⟩
    have HC9 := hide hc9
    have HN9 := hide hn9
    have HK9 := hide (HK2.out.on hk9)
    clear hc9 hn9 hk9
    go_wp2
    go_ret
    refine ⟨n9, ret_bool (by rw [HNE.out]; simp), HC9.out, (fun hx => ?_), HK9.out⟩
    rw [HN9.out (by rw [HNE.out]; simpa using hx), HNE.out]
    omega

set_option maxHeartbeats 1000000 in
set_option maxRecDepth 100000 in
theorem formOk_7 {h : Nat} (hP : ChPs h) (hA : ChAs h) (al : List Tr) (o3 : Option Addr) (c3 : Nat) (hal : al.length ≤ maxLen) (y : Tr) (p01 p02 p03 : Option Addr) (g01 g02 g03 : Nat) (cb n : Nat) (d : Int) (w : World) (r0 : (reads (NeK cb) w h).ex y [.int .i64 y.k, .string y.s, .int .i64 y.n, .slice p01 y.l.length g01, .slice p02 y.ds.length g02, .slice p03 y.al.length g03]) (ra : RowOf (NeK cb) w (reads (NeK cb) w h).al 8 o3 al) (hc : Ctr w cb n) (hn : n ≤ 200) (h0 : -2 ≤ d) (h1 : d ≤ 12) :
    Calls Tryz.prog 143 #[.pointer (some ⟨cb, 0, none⟩), .iface 169 (.agg #[.int .i64 y.k, .string y.s, .int .i64 y.n, .slice p01 y.l.length g01, .slice p02 y.ds.length g02, .slice p03 y.al.length g03, .slice o3 al.length c3]), .int .i64 d] w (Cres cb n w (goodB (okz h).ex (cnt h).ex [y] (d + 1) n && (inB al.length 1 6 && goodB (fun a d => altB a && (okz h).al a d) (cnt h).al al (d + 1) (n + sumZ (cnt h).ex [y]))) (sumZ (cnt h).ex [y] + sumZ (cnt h).al al)) := by
  have HP := hide hP
  have HC := hide hc
  have hcb : cb < w.heap.size := heap_lt hc
  have R0 := hide r0
  have HA := hide hA
  have RA := hide ra
  have HAL := hide hal
  clear hP hc r0 hA ra hal
  have HB0 : Hid (Below w.heap.size w (w.alloc (.cells #[.int .i64 y.k, .string y.s, .int .i64 y.n, .slice p01 y.l.length g01, .slice p02 y.ds.length g02, .slice p03 y.al.length g03, .slice o3 al.length c3] 169))) := (Below.refl _ w).alloc (Nat.le_refl _) _
  have HX0 : Hid ((w.alloc (.cells #[.int .i64 y.k, .string y.s, .int .i64 y.n, .slice p01 y.l.length g01, .slice p02 y.ds.length g02, .slice p03 y.al.length g03, .slice o3 al.length c3] 169)).heap[w.heap.size]? = some (.cells #[.int .i64 y.k, .string y.s, .int .i64 y.n, .slice p01 y.l.length g01, .slice p02 y.ds.length g02, .slice p03 y.al.length g03, .slice o3 al.length c3] 169 (0, 0))) := heap_alloc_new w _
  have ta1 := ta_7_1
  have ta2 := ta_7_2
  have ta3 := ta_7_3
  have ta4 := ta_7_4
  have ta5 := ta_7_5
  have ta6 := ta_7_6
  have ta7 := ta_7_7
  cases ht : goodB (okz h).ex (cnt h).ex [y] (d + 1) n
  · have HT := hide ht
    clear ht
    have HA1 : Hid (Below (w.alloc (.cells #[.int .i64 y.k, .string y.s, .int .i64 y.n, .slice p01 y.l.length g01, .slice p02 y.ds.length g02, .slice p03 y.al.length g03, .slice o3 al.length c3] 169)).heap.size (w.alloc (.cells #[.int .i64 y.k, .string y.s, .int .i64 y.n, .slice p01 y.l.length g01, .slice p02 y.ds.length g02, .slice p03 y.al.length g03, .slice o3 al.length c3] 169)) ((w.alloc (.cells #[.int .i64 y.k, .string y.s, .int .i64 y.n, .slice p01 y.l.length g01, .slice p02 y.ds.length g02, .slice p03 y.al.length g03, .slice o3 al.length c3] 169)).alloc (.cells #[.int .i64 y.k, .string y.s, .int .i64 y.n, .slice p01 y.l.length g01, .slice p02 y.ds.length g02, .slice p03 y.al.length g03] 47))) := (Below.refl _ _).alloc (Nat.le_refl _) _
    have HB2 := hide (HB0.out.trans (HA1.out.mono HB0.out.size))
    have HROW : Hid (RowOf (NeK cb) ((w.alloc (.cells #[.int .i64 y.k, .string y.s, .int .i64 y.n, .slice p01 y.l.length g01, .slice p02 y.ds.length g02, .slice p03 y.al.length g03, .slice o3 al.length c3] 169)).alloc (.cells #[.int .i64 y.k, .string y.s, .int .i64 y.n, .slice p01 y.l.length g01, .slice p02 y.ds.length g02, .slice p03 y.al.length g03] 47)) (reads (NeK cb) ((w.alloc (.cells #[.int .i64 y.k, .string y.s, .int .i64 y.n, .slice p01 y.l.length g01, .slice p02 y.ds.length g02, .slice p03 y.al.length g03, .slice o3 al.length c3] 169)).alloc (.cells #[.int .i64 y.k, .string y.s, .int .i64 y.n, .slice p01 y.l.length g01, .slice p02 y.ds.length g02, .slice p03 y.al.length g03] 47)) h).ex 6 (some ⟨w.heap.size + 1, 0, none⟩) [y]) :=
      (filled1 ((reads_later HB2.out h).1 _ _ R0.out)).row (heap_alloc2_new w _ _) (by show w.heap.size + 1 ≠ cb; have := HB0.out.size; omega)
    go_enter Tryz.func143, Tryz.ntmps143
    go_wp2_with fail
    refine (HP.out [y] _ 1 _ cb n d HROW.out (show 1 ≤ maxLen by decide) (HC.out.later HB2.out) hn (by omega) (by omega)).mono ?_
    rintro e w9 ⟨n9, rfl, hc9, hn9, hk9⟩
    have HC9 := hide hc9
    have HN9 := hide hn9
    have HK9 := hide ((Kp.of (cb := cb) HB2.out).on hk9)
    have HX9 := hide ((hk9.block w.heap.size (Nat.lt_of_lt_of_le (heap_lt HX0.out) HA1.out.size) (by omega)).trans ((HA1.out.block w.heap.size (heap_lt HX0.out)).trans HX0.out))
    clear hc9 hn9 hk9
    rw [HT.out]
    go_wp2
    go_ret
    exact ⟨n9, ret_bool (by simp), HC9.out, (fun hx => by simp at hx), HK9.out⟩
  · have HT := hide ht
    have hle : n + sumZ (cnt h).ex [y] ≤ 200 := by unfold goodB at ht; rw [Bool.and_eq_true] at ht; exact of_decide_eq_true ht.2
    clear ht
    have HA1 : Hid (Below (w.alloc (.cells #[.int .i64 y.k, .string y.s, .int .i64 y.n, .slice p01 y.l.length g01, .slice p02 y.ds.length g02, .slice p03 y.al.length g03, .slice o3 al.length c3] 169)).heap.size (w.alloc (.cells #[.int .i64 y.k, .string y.s, .int .i64 y.n, .slice p01 y.l.length g01, .slice p02 y.ds.length g02, .slice p03 y.al.length g03, .slice o3 al.length c3] 169)) ((w.alloc (.cells #[.int .i64 y.k, .string y.s, .int .i64 y.n, .slice p01 y.l.length g01, .slice p02 y.ds.length g02, .slice p03 y.al.length g03, .slice o3 al.length c3] 169)).alloc (.cells #[.int .i64 y.k, .string y.s, .int .i64 y.n, .slice p01 y.l.length g01, .slice p02 y.ds.length g02, .slice p03 y.al.length g03] 47))) := (Below.refl _ _).alloc (Nat.le_refl _) _
    have HB2 := hide (HB0.out.trans (HA1.out.mono HB0.out.size))
    have HROW : Hid (RowOf (NeK cb) ((w.alloc (.cells #[.int .i64 y.k, .string y.s, .int .i64 y.n, .slice p01 y.l.length g01, .slice p02 y.ds.length g02, .slice p03 y.al.length g03, .slice o3 al.length c3] 169)).alloc (.cells #[.int .i64 y.k, .string y.s, .int .i64 y.n, .slice p01 y.l.length g01, .slice p02 y.ds.length g02, .slice p03 y.al.length g03] 47)) (reads (NeK cb) ((w.alloc (.cells #[.int .i64 y.k, .string y.s, .int .i64 y.n, .slice p01 y.l.length g01, .slice p02 y.ds.length g02, .slice p03 y.al.length g03, .slice o3 al.length c3] 169)).alloc (.cells #[.int .i64 y.k, .string y.s, .int .i64 y.n, .slice p01 y.l.length g01, .slice p02 y.ds.length g02, .slice p03 y.al.length g03] 47)) h).ex 6 (some ⟨w.heap.size + 1, 0, none⟩) [y]) :=
      (filled1 ((reads_later HB2.out h).1 _ _ R0.out)).row (heap_alloc2_new w _ _) (by show w.heap.size + 1 ≠ cb; have := HB0.out.size; omega)
    go_enter Tryz.func143, Tryz.ntmps143
    go_wp2_with fail
    refine (HP.out [y] _ 1 _ cb n d HROW.out (show 1 ≤ maxLen by decide) (HC.out.later HB2.out) hn (by omega) (by omega)).mono ?_
    rintro e w9 ⟨n9, rfl, hc9, hn9, hk9⟩
    have HC9 := hide hc9
    have HN9 := hide hn9
    have HK9 := hide ((Kp.of (cb := cb) HB2.out).on hk9)
    have HX9 := hide ((hk9.block w.heap.size (Nat.lt_of_lt_of_le (heap_lt HX0.out) HA1.out.size) (by omega)).trans ((HA1.out.block w.heap.size (heap_lt HX0.out)).trans HX0.out))
    clear hc9 hn9 hk9
    rw [HT.out]
    have hne9 := HN9.out HT.out
    have HNE := hide hne9
    have hn9 : n9 ≤ 200 := by omega
    clear hne9
    have x6 := cell_of HX9.out 6
    simp only [List.getElem?_toArray, List.getElem?_cons_succ, List.getElem?_cons_zero] at x6
    have st := HK9.out.stays
    go_wp2_with fail
    refine (HA.out al o3 c3 _ cb n9 d (RA.out.frame st (fun _ h => h) (reads_frame st (fun _ h => h) h).2.2) HAL.out HC9.out hn9 (by omega) (by omega)).mono ?_
    rintro e w8 ⟨n8, rfl, hc8, hn8, hk8⟩
    have HC8 := hide hc8
    have HN8 := hide hn8
    have HK8 := hide (HK9.out.on hk8)
    clear hc8 hn8 hk8 st
    go_wp2
    go_ret
    refine ⟨n8, ret_bool (by rw [HNE.out]; simp), HC8.out, (fun hx => ?_), HK8.out⟩
    rw [HN8.out (by rw [HNE.out]; simpa using hx), HNE.out]
    omega

end Go.Proofs.YteoghpefilghdakGreatDoor
