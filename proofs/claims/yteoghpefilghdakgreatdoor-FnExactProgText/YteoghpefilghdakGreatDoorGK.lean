/- Made of EK1, EK2, EK3, EK4, EK5, EK6, EK7, EK8, EK9. -/
import Derived.Test.YteoghpefilghdakGreatDoorGH
namespace Go.Proofs.YteoghpefilghdakGreatDoor
open Go.ChangeShapes Go.WideShapes Go.ChangeAt Go.RowKit
set_option linter.unusedVariables false
set_option linter.unusedSimpArgs false

set_option maxHeartbeats 2000000 in
set_option maxRecDepth 100000 in
theorem pform_1 {h : Nat} (hE : PxEx h) (hP : PxPa h) (hD : PxDs h) (hA : PxAs h) (s : ByteArray) (w : World) (B b : Nat) (l : List UInt8) (n : Nat) (d : Int) (hpg : Pg B b l w) (htb : Tb B w) (hn : (n : Int) ≤ 60 + 4 * d) (hd : d ≤ 12)  (hlen : l.length + (bl s).length ≤ 10000000) :
    Calls Tryz.prog 68 #[.pointer (some ⟨b, 0, none⟩), .iface 157 (.agg #[.string s]), .int .i64 n] w (Wr B b l (bl s) w) := by
  have HE := hide hE
  have HP := hide hP
  have HD := hide hD
  have HA := hide hA
  have TB := hide htb
  have S0 := hide (Stp.first hpg #[.string s] 157)
  have hn1 : n ≤ 108 := by omega
  have hlen2 := hlen
  try simp only [List.length_append, List.length_cons, List.length_nil, bl_len, padL_len] at hlen2
  clear hE hP hD hA hpg htb hlen
  have t1 := tb_1_1 (.agg #[.string s])
  go_enter Tryz.func68, Tryz.ntmps68
  have y0 := cell_of S0.out.bx 0
  simp only [List.getElem?_toArray, List.getElem?_cons_succ, List.getElem?_cons_zero] at y0
  go_wp2_with fail
  refine (put1g B b _ s (w.alloc (.cells #[.string s] 157)) _ S0.out.pg (by first | rfl | simp) (by (try simp only [List.length_append, List.length_cons, List.length_nil, bl_len, padL_len, ofL_size, lit_size, List.size_toArray]); omega)).mono ?_
  rintro e w1 ⟨rfl, h1, f1⟩
  have S1 := hide (S0.out.next h1 f1 (by decide) (by decide))
  clear h1 f1
  clear y0
  have y0 := cell_of S1.out.bx 0
  simp only [List.getElem?_toArray, List.getElem?_cons_succ, List.getElem?_cons_zero] at y0
  go_wp2
  go_end0
  refine ⟨rfl, ?_, S1.out.fr⟩
  have key := S1.out.pg
  have hE : l ++ bl s = l ++ (bl s) := by simp only [bl_mk, bl_ofL, List.append_assoc, List.cons_append, List.nil_append]
  rw [hE] at key
  exact key
end Go.Proofs.YteoghpefilghdakGreatDoor
namespace Go.Proofs.YteoghpefilghdakGreatDoor
open Go.ChangeShapes Go.WideShapes Go.ChangeAt Go.RowKit
set_option linter.unusedVariables false
set_option linter.unusedSimpArgs false

set_option maxHeartbeats 2000000 in
set_option maxRecDepth 100000 in
theorem pform_2 {h : Nat} (hE : PxEx h) (hP : PxPa h) (hD : PxDs h) (hA : PxAs h) (s : ByteArray) (w : World) (B b : Nat) (l : List UInt8) (n : Nat) (d : Int) (hpg : Pg B b l w) (htb : Tb B w) (hn : (n : Int) ≤ 60 + 4 * d) (hd : d ≤ 12)  (hlen : l.length + (bl s).length ≤ 10000000) :
    Calls Tryz.prog 68 #[.pointer (some ⟨b, 0, none⟩), .iface 158 (.agg #[.string s]), .int .i64 n] w (Wr B b l (bl s) w) := by
  have HE := hide hE
  have HP := hide hP
  have HD := hide hD
  have HA := hide hA
  have TB := hide htb
  have S0 := hide (Stp.first hpg #[.string s] 158)
  have hn1 : n ≤ 108 := by omega
  have hlen2 := hlen
  try simp only [List.length_append, List.length_cons, List.length_nil, bl_len, padL_len] at hlen2
  clear hE hP hD hA hpg htb hlen
  have t1 := tb_2_1 (.agg #[.string s])
  have t2 := tb_2_2 (.agg #[.string s])
  go_enter Tryz.func68, Tryz.ntmps68
  have y0 := cell_of S0.out.bx 0
  simp only [List.getElem?_toArray, List.getElem?_cons_succ, List.getElem?_cons_zero] at y0
  go_wp2_with fail
  refine (put1g B b _ s (w.alloc (.cells #[.string s] 158)) _ S0.out.pg (by first | rfl | simp) (by (try simp only [List.length_append, List.length_cons, List.length_nil, bl_len, padL_len, ofL_size, lit_size, List.size_toArray]); omega)).mono ?_
  rintro e w1 ⟨rfl, h1, f1⟩
  have S1 := hide (S0.out.next h1 f1 (by decide) (by decide))
  clear h1 f1
  clear y0
  have y0 := cell_of S1.out.bx 0
  simp only [List.getElem?_toArray, List.getElem?_cons_succ, List.getElem?_cons_zero] at y0
  go_wp2
  go_end0
  refine ⟨rfl, ?_, S1.out.fr⟩
  have key := S1.out.pg
  have hE : l ++ bl s = l ++ (bl s) := by simp only [bl_mk, bl_ofL, List.append_assoc, List.cons_append, List.nil_append]
  rw [hE] at key
  exact key
end Go.Proofs.YteoghpefilghdakGreatDoor
namespace Go.Proofs.YteoghpefilghdakGreatDoor
open Go.ChangeShapes Go.WideShapes Go.ChangeAt Go.RowKit
set_option linter.unusedVariables false
set_option linter.unusedSimpArgs false

set_option maxHeartbeats 2000000 in
set_option maxRecDepth 100000 in
theorem pform_3 {h : Nat} (hE : PxEx h) (hP : PxPa h) (hD : PxDs h) (hA : PxAs h) (m : Int) (w : World) (B b : Nat) (l : List UInt8) (n : Nat) (d : Int) (hpg : Pg B b l w) (htb : Tb B w) (hn : (n : Int) ≤ 60 + 4 * d) (hd : d ≤ 12) (hm0 : 0 ≤ m) (hm1 : m ≤ 999999) (hlen : l.length + (Lib.decDigits m.toNat).length ≤ 10000000) :
    Calls Tryz.prog 68 #[.pointer (some ⟨b, 0, none⟩), .iface 160 (.agg #[.int .i64 m]), .int .i64 n] w (Wr B b l (Lib.decDigits m.toNat) w) := by
  obtain ⟨q, rfl⟩ : ∃ q : Nat, m = q := ⟨m.toNat, by omega⟩
  rw [Int.toNat_natCast] at hlen ⊢
  have hq : q ≤ 999999 := by omega
  have HE := hide hE
  have HP := hide hP
  have HD := hide hD
  have HA := hide hA
  have TB := hide htb
  have S0 := hide (Stp.first hpg #[.int .i64 (q : Int)] 160)
  have hn1 : n ≤ 108 := by omega
  have hlen2 := hlen
  try simp only [List.length_append, List.length_cons, List.length_nil, bl_len, padL_len] at hlen2
  clear hE hP hD hA hpg htb hlen
  have t1 := tb_3_1 (.agg #[.int .i64 (q : Int)])
  have t2 := tb_3_2 (.agg #[.int .i64 (q : Int)])
  have t3 := tb_3_3 (.agg #[.int .i64 (q : Int)])
  go_enter Tryz.func68, Tryz.ntmps68
  have y0 := cell_of S0.out.bx 0
  simp only [List.getElem?_toArray, List.getElem?_cons_succ, List.getElem?_cons_zero] at y0
  go_wp2_with fail
  refine (itoa_any B q _ (TB.out.on S0.out.fr.below) hq).mono ?_
  rintro e w1 ⟨rfl, hb⟩
  have S1 := hide (S0.out.next (S0.out.pg.later hb) (Fr.of hb S0.out.pg.2) (by decide) (by decide))
  clear hb
  clear y0
  have y0 := cell_of S1.out.bx 0
  simp only [List.getElem?_toArray, List.getElem?_cons_succ, List.getElem?_cons_zero] at y0
  go_wp2_with fail
  refine (put1g B b _ (ofL (Lib.decDigits q)) w1 _ S1.out.pg (by first | rfl | simp) (by (try simp only [List.length_append, List.length_cons, List.length_nil, bl_len, padL_len, ofL_size, lit_size, List.size_toArray]); omega)).mono ?_
  rintro e w2 ⟨rfl, h1, f1⟩
  have S2 := hide (S1.out.next h1 f1 (by decide) (by decide))
  clear h1 f1
  clear y0
  have y0 := cell_of S2.out.bx 0
  simp only [List.getElem?_toArray, List.getElem?_cons_succ, List.getElem?_cons_zero] at y0
  go_wp2
  go_end0
  refine ⟨rfl, ?_, S2.out.fr⟩
  have key := S2.out.pg
  have hE : l ++ bl (ofL (Lib.decDigits q)) = l ++ (Lib.decDigits q) := by simp only [bl_mk, bl_ofL, List.append_assoc, List.cons_append, List.nil_append]
  rw [hE] at key
  exact key
end Go.Proofs.YteoghpefilghdakGreatDoor
namespace Go.Proofs.YteoghpefilghdakGreatDoor
open Go.ChangeShapes Go.WideShapes Go.ChangeAt Go.RowKit
set_option linter.unusedVariables false
set_option linter.unusedSimpArgs false

set_option maxHeartbeats 2000000 in
set_option maxRecDepth 100000 in
theorem pform_4 {h : Nat} (hE : PxEx h) (hP : PxPa h) (hD : PxDs h) (hA : PxAs h) (x : Tr) (xo1 xo2 xo3 : Option Addr) (xg1 xg2 xg3 : Nat) (y : Tr) (yo1 yo2 yo3 : Option Addr) (yg1 yg2 yg3 : Nat) (w : World) (B b : Nat) (l : List UInt8) (n : Nat) (d : Int) (hpg : Pg B b l w) (htb : Tb B w) (hn : (n : Int) ≤ 60 + 4 * d) (hd : d ≤ 12) (xr : (reads (LtK B) w h).ex x [.int .i64 x.k, .string x.s, .int .i64 x.n, .slice xo1 x.l.length xg1, .slice xo2 x.ds.length xg2, .slice xo3 x.al.length xg3]) (xok : (okz h).ex x (d + 1) = true) (xc : (cnt h).ex x ≤ 200) (yr : (reads (LtK B) w h).ex y [.int .i64 y.k, .string y.s, .int .i64 y.n, .slice yo1 y.l.length yg1, .slice yo2 y.ds.length yg2, .slice yo3 y.al.length yg3]) (yok : (okz h).ex y (d + 1) = true) (yc : (cnt h).ex y ≤ 200) (hlen : l.length + (atL (txt h).ex x 4 n ++ (32 :: atL (txt h).ex y 5 n)).length ≤ 10000000) :
    Calls Tryz.prog 68 #[.pointer (some ⟨b, 0, none⟩), .iface 162 (.agg #[.int .i64 x.k, .string x.s, .int .i64 x.n, .slice xo1 x.l.length xg1, .slice xo2 x.ds.length xg2, .slice xo3 x.al.length xg3, .int .i64 y.k, .string y.s, .int .i64 y.n, .slice yo1 y.l.length yg1, .slice yo2 y.ds.length yg2, .slice yo3 y.al.length yg3]), .int .i64 n] w (Wr B b l (atL (txt h).ex x 4 n ++ (32 :: atL (txt h).ex y 5 n)) w) := by
  have XR := hide xr
  clear xr
  have YR := hide yr
  clear yr
  have HE := hide hE
  have HP := hide hP
  have HD := hide hD
  have HA := hide hA
  have TB := hide htb
  have S0 := hide (Stp.first hpg #[.int .i64 x.k, .string x.s, .int .i64 x.n, .slice xo1 x.l.length xg1, .slice xo2 x.ds.length xg2, .slice xo3 x.al.length xg3, .int .i64 y.k, .string y.s, .int .i64 y.n, .slice yo1 y.l.length yg1, .slice yo2 y.ds.length yg2, .slice yo3 y.al.length yg3] 162)
  have hn1 : n ≤ 108 := by omega
  have hlen2 := hlen
  try simp only [List.length_append, List.length_cons, List.length_nil, bl_len, padL_len] at hlen2
  clear hE hP hD hA hpg htb hlen
  have t1 := tb_4_1 (.agg #[.int .i64 x.k, .string x.s, .int .i64 x.n, .slice xo1 x.l.length xg1, .slice xo2 x.ds.length xg2, .slice xo3 x.al.length xg3, .int .i64 y.k, .string y.s, .int .i64 y.n, .slice yo1 y.l.length yg1, .slice yo2 y.ds.length yg2, .slice yo3 y.al.length yg3])
  have t2 := tb_4_2 (.agg #[.int .i64 x.k, .string x.s, .int .i64 x.n, .slice xo1 x.l.length xg1, .slice xo2 x.ds.length xg2, .slice xo3 x.al.length xg3, .int .i64 y.k, .string y.s, .int .i64 y.n, .slice yo1 y.l.length yg1, .slice yo2 y.ds.length yg2, .slice yo3 y.al.length yg3])
  have t3 := tb_4_3 (.agg #[.int .i64 x.k, .string x.s, .int .i64 x.n, .slice xo1 x.l.length xg1, .slice xo2 x.ds.length xg2, .slice xo3 x.al.length xg3, .int .i64 y.k, .string y.s, .int .i64 y.n, .slice yo1 y.l.length yg1, .slice yo2 y.ds.length yg2, .slice yo3 y.al.length yg3])
  have t4 := tb_4_4 (.agg #[.int .i64 x.k, .string x.s, .int .i64 x.n, .slice xo1 x.l.length xg1, .slice xo2 x.ds.length xg2, .slice xo3 x.al.length xg3, .int .i64 y.k, .string y.s, .int .i64 y.n, .slice yo1 y.l.length yg1, .slice yo2 y.ds.length yg2, .slice yo3 y.al.length yg3])
  go_enter Tryz.func68, Tryz.ntmps68
  have y0 := cell_of S0.out.bx 0
  have y1 := cell_of S0.out.bx 1
  have y2 := cell_of S0.out.bx 2
  have y3 := cell_of S0.out.bx 3
  have y4 := cell_of S0.out.bx 4
  have y5 := cell_of S0.out.bx 5
  have y6 := cell_of S0.out.bx 6
  have y7 := cell_of S0.out.bx 7
  have y8 := cell_of S0.out.bx 8
  have y9 := cell_of S0.out.bx 9
  have y10 := cell_of S0.out.bx 10
  have y11 := cell_of S0.out.bx 11
  simp only [List.getElem?_toArray, List.getElem?_cons_succ, List.getElem?_cons_zero] at y0 y1 y2 y3 y4 y5 y6 y7 y8 y9 y10 y11
  go_wp2_with fail
  refine (HP.out x _ _ B b _ n (d + 1) 4 ((reads_fr S0.out.fr h).1 _ _ XR.out) xok S0.out.pg (TB.out.on S0.out.fr.below) (by omega) xc (by (try simp only [List.length_append, List.length_cons, List.length_nil, bl_len, padL_len, ofL_size, lit_size, List.size_toArray]); omega) (by omega)).mono ?_
  rintro e w1 ⟨rfl, h1, f1⟩
  have S1 := hide (S0.out.next h1 f1 (by decide) (by decide))
  clear h1 f1
  clear y0 y1 y2 y3 y4 y5 y6 y7 y8 y9 y10 y11
  have y0 := cell_of S1.out.bx 0
  have y1 := cell_of S1.out.bx 1
  have y2 := cell_of S1.out.bx 2
  have y3 := cell_of S1.out.bx 3
  have y4 := cell_of S1.out.bx 4
  have y5 := cell_of S1.out.bx 5
  have y6 := cell_of S1.out.bx 6
  have y7 := cell_of S1.out.bx 7
  have y8 := cell_of S1.out.bx 8
  have y9 := cell_of S1.out.bx 9
  have y10 := cell_of S1.out.bx 10
  have y11 := cell_of S1.out.bx 11
  simp only [List.getElem?_toArray, List.getElem?_cons_succ, List.getElem?_cons_zero] at y0 y1 y2 y3 y4 y5 y6 y7 y8 y9 y10 y11
  go_wp2_with fail
  refine (put1g B b _ ⟨#[32]⟩ w1 _ S1.out.pg (by first | rfl | simp) (by (try simp only [List.length_append, List.length_cons, List.length_nil, bl_len, padL_len, ofL_size, lit_size, List.size_toArray]); omega)).mono ?_
  rintro e w2 ⟨rfl, h1, f1⟩
  have S2 := hide (S1.out.next h1 f1 (by decide) (by decide))
  clear h1 f1
  clear y0 y1 y2 y3 y4 y5 y6 y7 y8 y9 y10 y11
  have y0 := cell_of S2.out.bx 0
  have y1 := cell_of S2.out.bx 1
  have y2 := cell_of S2.out.bx 2
  have y3 := cell_of S2.out.bx 3
  have y4 := cell_of S2.out.bx 4
  have y5 := cell_of S2.out.bx 5
  have y6 := cell_of S2.out.bx 6
  have y7 := cell_of S2.out.bx 7
  have y8 := cell_of S2.out.bx 8
  have y9 := cell_of S2.out.bx 9
  have y10 := cell_of S2.out.bx 10
  have y11 := cell_of S2.out.bx 11
  simp only [List.getElem?_toArray, List.getElem?_cons_succ, List.getElem?_cons_zero] at y0 y1 y2 y3 y4 y5 y6 y7 y8 y9 y10 y11
  go_wp2_with fail
  refine (HP.out y _ w2 B b _ n (d + 1) 5 ((reads_fr S2.out.fr h).1 _ _ YR.out) yok S2.out.pg (TB.out.on S2.out.fr.below) (by omega) yc (by (try simp only [List.length_append, List.length_cons, List.length_nil, bl_len, padL_len, ofL_size, lit_size, List.size_toArray]); omega) (by omega)).mono ?_
  rintro e w3 ⟨rfl, h1, f1⟩
  have S3 := hide (S2.out.next h1 f1 (by decide) (by decide))
  clear h1 f1
  clear y0 y1 y2 y3 y4 y5 y6 y7 y8 y9 y10 y11
  have y0 := cell_of S3.out.bx 0
  have y1 := cell_of S3.out.bx 1
  have y2 := cell_of S3.out.bx 2
  have y3 := cell_of S3.out.bx 3
  have y4 := cell_of S3.out.bx 4
  have y5 := cell_of S3.out.bx 5
  have y6 := cell_of S3.out.bx 6
  have y7 := cell_of S3.out.bx 7
  have y8 := cell_of S3.out.bx 8
  have y9 := cell_of S3.out.bx 9
  have y10 := cell_of S3.out.bx 10
  have y11 := cell_of S3.out.bx 11
  simp only [List.getElem?_toArray, List.getElem?_cons_succ, List.getElem?_cons_zero] at y0 y1 y2 y3 y4 y5 y6 y7 y8 y9 y10 y11
  go_wp2
  go_end0
  refine ⟨rfl, ?_, S3.out.fr⟩
  have key := S3.out.pg
  have hE : l ++ atL (txt h).ex x 4 n ++ bl ⟨#[32]⟩ ++ atL (txt h).ex y 5 n = l ++ (atL (txt h).ex x 4 n ++ (32 :: atL (txt h).ex y 5 n)) := by simp only [bl_mk, bl_ofL, List.append_assoc, List.cons_append, List.nil_append]
  rw [hE] at key
  exact key
end Go.Proofs.YteoghpefilghdakGreatDoor
namespace Go.Proofs.YteoghpefilghdakGreatDoor
open Go.ChangeShapes Go.WideShapes Go.ChangeAt Go.RowKit
set_option linter.unusedVariables false
set_option linter.unusedSimpArgs false

set_option maxHeartbeats 2000000 in
set_option maxRecDepth 100000 in
theorem pform_5 {h : Nat} (hE : PxEx h) (hP : PxPa h) (hD : PxDs h) (hA : PxAs h) (s : ByteArray) (x : Tr) (xo1 xo2 xo3 : Option Addr) (xg1 xg2 xg3 : Nat) (w : World) (B b : Nat) (l : List UInt8) (n : Nat) (d : Int) (hpg : Pg B b l w) (htb : Tb B w) (hn : (n : Int) ≤ 60 + 4 * d) (hd : d ≤ 12) (xr : (reads (LtK B) w h).ex x [.int .i64 x.k, .string x.s, .int .i64 x.n, .slice xo1 x.l.length xg1, .slice xo2 x.ds.length xg2, .slice xo3 x.al.length xg3]) (xok : (okz h).ex x (d + 1) = true) (xc : (cnt h).ex x ≤ 200) (hlen : l.length + (92 :: (bl s ++ ([32, 45, 62, 32] ++ (txt h).ex x n))).length ≤ 10000000) :
    Calls Tryz.prog 68 #[.pointer (some ⟨b, 0, none⟩), .iface 165 (.agg #[.string s, .int .i64 x.k, .string x.s, .int .i64 x.n, .slice xo1 x.l.length xg1, .slice xo2 x.ds.length xg2, .slice xo3 x.al.length xg3]), .int .i64 n] w (Wr B b l (92 :: (bl s ++ ([32, 45, 62, 32] ++ (txt h).ex x n))) w) := by
  have XR := hide xr
  clear xr
  have HE := hide hE
  have HP := hide hP
  have HD := hide hD
  have HA := hide hA
  have TB := hide htb
  have S0 := hide (Stp.first hpg #[.string s, .int .i64 x.k, .string x.s, .int .i64 x.n, .slice xo1 x.l.length xg1, .slice xo2 x.ds.length xg2, .slice xo3 x.al.length xg3] 165)
  have hn1 : n ≤ 108 := by omega
  have hlen2 := hlen
  try simp only [List.length_append, List.length_cons, List.length_nil, bl_len, padL_len] at hlen2
  clear hE hP hD hA hpg htb hlen
  have t1 := tb_5_1 (.agg #[.string s, .int .i64 x.k, .string x.s, .int .i64 x.n, .slice xo1 x.l.length xg1, .slice xo2 x.ds.length xg2, .slice xo3 x.al.length xg3])
  have t2 := tb_5_2 (.agg #[.string s, .int .i64 x.k, .string x.s, .int .i64 x.n, .slice xo1 x.l.length xg1, .slice xo2 x.ds.length xg2, .slice xo3 x.al.length xg3])
  have t3 := tb_5_3 (.agg #[.string s, .int .i64 x.k, .string x.s, .int .i64 x.n, .slice xo1 x.l.length xg1, .slice xo2 x.ds.length xg2, .slice xo3 x.al.length xg3])
  have t4 := tb_5_4 (.agg #[.string s, .int .i64 x.k, .string x.s, .int .i64 x.n, .slice xo1 x.l.length xg1, .slice xo2 x.ds.length xg2, .slice xo3 x.al.length xg3])
  have t5 := tb_5_5 (.agg #[.string s, .int .i64 x.k, .string x.s, .int .i64 x.n, .slice xo1 x.l.length xg1, .slice xo2 x.ds.length xg2, .slice xo3 x.al.length xg3])
  go_enter Tryz.func68, Tryz.ntmps68
  have y0 := cell_of S0.out.bx 0
  have y1 := cell_of S0.out.bx 1
  have y2 := cell_of S0.out.bx 2
  have y3 := cell_of S0.out.bx 3
  have y4 := cell_of S0.out.bx 4
  have y5 := cell_of S0.out.bx 5
  have y6 := cell_of S0.out.bx 6
  simp only [List.getElem?_toArray, List.getElem?_cons_succ, List.getElem?_cons_zero] at y0 y1 y2 y3 y4 y5 y6
  go_wp2_with fail
  refine (put3g B b _ ⟨#[92]⟩ s ⟨#[32, 45, 62, 32]⟩ (w.alloc (.cells #[.string s, .int .i64 x.k, .string x.s, .int .i64 x.n, .slice xo1 x.l.length xg1, .slice xo2 x.ds.length xg2, .slice xo3 x.al.length xg3] 165)) _ S0.out.pg (by first | rfl | simp) (by (try simp only [List.length_append, List.length_cons, List.length_nil, bl_len, padL_len, ofL_size, lit_size, List.size_toArray]); omega)).mono ?_
  rintro e w1 ⟨rfl, h1, f1⟩
  have S1 := hide (S0.out.next h1 f1 (by decide) (by decide))
  clear h1 f1
  clear y0 y1 y2 y3 y4 y5 y6
  have y0 := cell_of S1.out.bx 0
  have y1 := cell_of S1.out.bx 1
  have y2 := cell_of S1.out.bx 2
  have y3 := cell_of S1.out.bx 3
  have y4 := cell_of S1.out.bx 4
  have y5 := cell_of S1.out.bx 5
  have y6 := cell_of S1.out.bx 6
  simp only [List.getElem?_toArray, List.getElem?_cons_succ, List.getElem?_cons_zero] at y0 y1 y2 y3 y4 y5 y6
  go_wp2_with fail
  refine (HE.out x _ w1 B b _ n (d + 1) ((reads_fr S1.out.fr h).1 _ _ XR.out) xok S1.out.pg (TB.out.on S1.out.fr.below) (by omega) xc (by (try simp only [List.length_append, List.length_cons, List.length_nil, bl_len, padL_len, ofL_size, lit_size, List.size_toArray]); omega)).mono ?_
  rintro e w2 ⟨rfl, h1, f1⟩
  have S2 := hide (S1.out.next h1 f1 (by decide) (by decide))
  clear h1 f1
  clear y0 y1 y2 y3 y4 y5 y6
  have y0 := cell_of S2.out.bx 0
  have y1 := cell_of S2.out.bx 1
  have y2 := cell_of S2.out.bx 2
  have y3 := cell_of S2.out.bx 3
  have y4 := cell_of S2.out.bx 4
  have y5 := cell_of S2.out.bx 5
  have y6 := cell_of S2.out.bx 6
  simp only [List.getElem?_toArray, List.getElem?_cons_succ, List.getElem?_cons_zero] at y0 y1 y2 y3 y4 y5 y6
  go_wp2
  go_end0
  refine ⟨rfl, ?_, S2.out.fr⟩
  have key := S2.out.pg
  have hE : l ++ (bl ⟨#[92]⟩ ++ (bl s ++ bl ⟨#[32, 45, 62, 32]⟩)) ++ (txt h).ex x n = l ++ (92 :: (bl s ++ ([32, 45, 62, 32] ++ (txt h).ex x n))) := by simp only [bl_mk, bl_ofL, List.append_assoc, List.cons_append, List.nil_append]
  rw [hE] at key
  exact key
end Go.Proofs.YteoghpefilghdakGreatDoor
namespace Go.Proofs.YteoghpefilghdakGreatDoor
open Go.ChangeShapes Go.WideShapes Go.ChangeAt Go.RowKit
set_option linter.unusedVariables false
set_option linter.unusedSimpArgs false

set_option maxHeartbeats 2000000 in
set_option maxRecDepth 100000 in
theorem pform_6 {h : Nat} (hE : PxEx h) (hP : PxPa h) (hD : PxDs h) (hA : PxAs h) (xs : List Tr) (o : Option Addr) (c : Nat) (x : Tr) (xo1 xo2 xo3 : Option Addr) (xg1 xg2 xg3 : Nat) (w : World) (B b : Nat) (l : List UInt8) (n : Nat) (d : Int) (hpg : Pg B b l w) (htb : Tb B w) (hn : (n : Int) ≤ 60 + 4 * d) (hd : d ≤ 12) (xr : (reads (LtK B) w h).ex x [.int .i64 x.k, .string x.s, .int .i64 x.n, .slice xo1 x.l.length xg1, .slice xo2 x.ds.length xg2, .slice xo3 x.al.length xg3]) (xok : (okz h).ex x (d + 1) = true) (xc : (cnt h).ex x ≤ 200) (xr2 : RowOf (LtK B) w (reads (LtK B) w h).de 9 o xs) (hxl : xs.length ≤ maxLen) (hxo : ∀ y, y ∈ xs → (okz h).de y (d + 1) = true) (hd1 : d + 1 ≤ 12) (hxc : sumZ (cnt h).de xs ≤ 200) (hlen : l.length + ([108, 101, 116] ++ (linesL (txt h).de xs (n + 2) ++ (10 :: (padL n ++ ([105, 110, 32] ++ (txt h).ex x n))))).length ≤ 10000000) :
    Calls Tryz.prog 68 #[.pointer (some ⟨b, 0, none⟩), .iface 167 (.agg #[.slice o xs.length c, .int .i64 x.k, .string x.s, .int .i64 x.n, .slice xo1 x.l.length xg1, .slice xo2 x.ds.length xg2, .slice xo3 x.al.length xg3]), .int .i64 n] w (Wr B b l ([108, 101, 116] ++ (linesL (txt h).de xs (n + 2) ++ (10 :: (padL n ++ ([105, 110, 32] ++ (txt h).ex x n))))) w) := by
  have XR := hide xr
  clear xr
  have XR2 := hide xr2
  have HXO := hide hxo
  clear xr2 hxo
  have wn : IntKind.i64.wrap ((n : Int) + 2) = (n : Int) + 2 := px_add (by omega) (by omega) (by omega) (by omega)
  have HE := hide hE
  have HP := hide hP
  have HD := hide hD
  have HA := hide hA
  have TB := hide htb
  have S0 := hide (Stp.first hpg #[.slice o xs.length c, .int .i64 x.k, .string x.s, .int .i64 x.n, .slice xo1 x.l.length xg1, .slice xo2 x.ds.length xg2, .slice xo3 x.al.length xg3] 167)
  have hn1 : n ≤ 108 := by omega
  have hlen2 := hlen
  try simp only [List.length_append, List.length_cons, List.length_nil, bl_len, padL_len] at hlen2
  clear hE hP hD hA hpg htb hlen
  have t1 := tb_6_1 (.agg #[.slice o xs.length c, .int .i64 x.k, .string x.s, .int .i64 x.n, .slice xo1 x.l.length xg1, .slice xo2 x.ds.length xg2, .slice xo3 x.al.length xg3])
  have t2 := tb_6_2 (.agg #[.slice o xs.length c, .int .i64 x.k, .string x.s, .int .i64 x.n, .slice xo1 x.l.length xg1, .slice xo2 x.ds.length xg2, .slice xo3 x.al.length xg3])
  have t3 := tb_6_3 (.agg #[.slice o xs.length c, .int .i64 x.k, .string x.s, .int .i64 x.n, .slice xo1 x.l.length xg1, .slice xo2 x.ds.length xg2, .slice xo3 x.al.length xg3])
  have t4 := tb_6_4 (.agg #[.slice o xs.length c, .int .i64 x.k, .string x.s, .int .i64 x.n, .slice xo1 x.l.length xg1, .slice xo2 x.ds.length xg2, .slice xo3 x.al.length xg3])
  have t5 := tb_6_5 (.agg #[.slice o xs.length c, .int .i64 x.k, .string x.s, .int .i64 x.n, .slice xo1 x.l.length xg1, .slice xo2 x.ds.length xg2, .slice xo3 x.al.length xg3])
  have t6 := tb_6_6 (.agg #[.slice o xs.length c, .int .i64 x.k, .string x.s, .int .i64 x.n, .slice xo1 x.l.length xg1, .slice xo2 x.ds.length xg2, .slice xo3 x.al.length xg3])
  go_enter Tryz.func68, Tryz.ntmps68
  have y0 := cell_of S0.out.bx 0
  have y1 := cell_of S0.out.bx 1
  have y2 := cell_of S0.out.bx 2
  have y3 := cell_of S0.out.bx 3
  have y4 := cell_of S0.out.bx 4
  have y5 := cell_of S0.out.bx 5
  have y6 := cell_of S0.out.bx 6
  simp only [List.getElem?_toArray, List.getElem?_cons_succ, List.getElem?_cons_zero] at y0 y1 y2 y3 y4 y5 y6
  go_wp2_with fail
  refine (put1g B b _ ⟨#[108, 101, 116]⟩ (w.alloc (.cells #[.slice o xs.length c, .int .i64 x.k, .string x.s, .int .i64 x.n, .slice xo1 x.l.length xg1, .slice xo2 x.ds.length xg2, .slice xo3 x.al.length xg3] 167)) _ S0.out.pg (by first | rfl | simp) (by (try simp only [List.length_append, List.length_cons, List.length_nil, bl_len, padL_len, ofL_size, lit_size, List.size_toArray]); omega)).mono ?_
  rintro e w1 ⟨rfl, h1, f1⟩
  have S1 := hide (S0.out.next h1 f1 (by decide) (by decide))
  clear h1 f1
  clear y0 y1 y2 y3 y4 y5 y6
  have y0 := cell_of S1.out.bx 0
  have y1 := cell_of S1.out.bx 1
  have y2 := cell_of S1.out.bx 2
  have y3 := cell_of S1.out.bx 3
  have y4 := cell_of S1.out.bx 4
  have y5 := cell_of S1.out.bx 5
  have y6 := cell_of S1.out.bx 6
  simp only [List.getElem?_toArray, List.getElem?_cons_succ, List.getElem?_cons_zero] at y0 y1 y2 y3 y4 y5 y6
  go_wp2_with fail
  refine (HD.out xs o c w1 B b _ (n + 2) (d + 1) (XR2.out.frame S1.out.fr.stays (fun _ h => h) (reads_fr S1.out.fr h).2.1) hxl HXO.out hd1 S1.out.pg (TB.out.on S1.out.fr.below) (by omega) hxc (by (try simp only [List.length_append, List.length_cons, List.length_nil, bl_len, padL_len, ofL_size, lit_size, List.size_toArray]); omega)).mono ?_
  rintro e w2 ⟨rfl, h1, f1⟩
  have S2 := hide (S1.out.next h1 f1 (by decide) (by decide))
  clear h1 f1
  clear y0 y1 y2 y3 y4 y5 y6
  have y0 := cell_of S2.out.bx 0
  have y1 := cell_of S2.out.bx 1
  have y2 := cell_of S2.out.bx 2
  have y3 := cell_of S2.out.bx 3
  have y4 := cell_of S2.out.bx 4
  have y5 := cell_of S2.out.bx 5
  have y6 := cell_of S2.out.bx 6
  simp only [List.getElem?_toArray, List.getElem?_cons_succ, List.getElem?_cons_zero] at y0 y1 y2 y3 y4 y5 y6
  go_wp2_with fail
  refine (newLine_any B b _ n w2 S2.out.pg (by omega) (by (try simp only [List.length_append, List.length_cons, List.length_nil, bl_len, padL_len, ofL_size, lit_size, List.size_toArray]); omega)).mono ?_
  rintro e w3 ⟨rfl, h1, f1⟩
  have S3 := hide (S2.out.next h1 f1 (by decide) (by decide))
  clear h1 f1
  clear y0 y1 y2 y3 y4 y5 y6
  have y0 := cell_of S3.out.bx 0
  have y1 := cell_of S3.out.bx 1
  have y2 := cell_of S3.out.bx 2
  have y3 := cell_of S3.out.bx 3
  have y4 := cell_of S3.out.bx 4
  have y5 := cell_of S3.out.bx 5
  have y6 := cell_of S3.out.bx 6
  simp only [List.getElem?_toArray, List.getElem?_cons_succ, List.getElem?_cons_zero] at y0 y1 y2 y3 y4 y5 y6
  go_wp2_with fail
  refine (put1g B b _ ⟨#[105, 110, 32]⟩ w3 _ S3.out.pg (by first | rfl | simp) (by (try simp only [List.length_append, List.length_cons, List.length_nil, bl_len, padL_len, ofL_size, lit_size, List.size_toArray]); omega)).mono ?_
  rintro e w4 ⟨rfl, h1, f1⟩
  have S4 := hide (S3.out.next h1 f1 (by decide) (by decide))
  clear h1 f1
  clear y0 y1 y2 y3 y4 y5 y6
  have y0 := cell_of S4.out.bx 0
  have y1 := cell_of S4.out.bx 1
  have y2 := cell_of S4.out.bx 2
  have y3 := cell_of S4.out.bx 3
  have y4 := cell_of S4.out.bx 4
  have y5 := cell_of S4.out.bx 5
  have y6 := cell_of S4.out.bx 6
  simp only [List.getElem?_toArray, List.getElem?_cons_succ, List.getElem?_cons_zero] at y0 y1 y2 y3 y4 y5 y6
  go_wp2_with fail
  refine (HE.out x _ w4 B b _ n (d + 1) ((reads_fr S4.out.fr h).1 _ _ XR.out) xok S4.out.pg (TB.out.on S4.out.fr.below) (by omega) xc (by (try simp only [List.length_append, List.length_cons, List.length_nil, bl_len, padL_len, ofL_size, lit_size, List.size_toArray]); omega)).mono ?_
  rintro e w5 ⟨rfl, h1, f1⟩
  have S5 := hide (S4.out.next h1 f1 (by decide) (by decide))
  clear h1 f1
  clear y0 y1 y2 y3 y4 y5 y6
  have y0 := cell_of S5.out.bx 0
  have y1 := cell_of S5.out.bx 1
  have y2 := cell_of S5.out.bx 2
  have y3 := cell_of S5.out.bx 3
  have y4 := cell_of S5.out.bx 4
  have y5 := cell_of S5.out.bx 5
  have y6 := cell_of S5.out.bx 6
  simp only [List.getElem?_toArray, List.getElem?_cons_succ, List.getElem?_cons_zero] at y0 y1 y2 y3 y4 y5 y6
  go_wp2
  go_end0
  refine ⟨rfl, ?_, S5.out.fr⟩
  have key := S5.out.pg
  have hE : l ++ bl ⟨#[108, 101, 116]⟩ ++ linesL (txt h).de xs (n + 2) ++ (10 :: padL n) ++ bl ⟨#[105, 110, 32]⟩ ++ (txt h).ex x n = l ++ ([108, 101, 116] ++ (linesL (txt h).de xs (n + 2) ++ (10 :: (padL n ++ ([105, 110, 32] ++ (txt h).ex x n))))) := by simp only [bl_mk, bl_ofL, List.append_assoc, List.cons_append, List.nil_append]
  rw [hE] at key
  exact key
end Go.Proofs.YteoghpefilghdakGreatDoor
namespace Go.Proofs.YteoghpefilghdakGreatDoor
open Go.ChangeShapes Go.WideShapes Go.ChangeAt Go.RowKit
set_option linter.unusedVariables false
set_option linter.unusedSimpArgs false

set_option maxHeartbeats 2000000 in
set_option maxRecDepth 100000 in
theorem pform_7 {h : Nat} (hE : PxEx h) (hP : PxPa h) (hD : PxDs h) (hA : PxAs h) (xs : List Tr) (o : Option Addr) (c : Nat) (x : Tr) (xo1 xo2 xo3 : Option Addr) (xg1 xg2 xg3 : Nat) (w : World) (B b : Nat) (l : List UInt8) (n : Nat) (d : Int) (hpg : Pg B b l w) (htb : Tb B w) (hn : (n : Int) ≤ 60 + 4 * d) (hd : d ≤ 12) (xr : (reads (LtK B) w h).ex x [.int .i64 x.k, .string x.s, .int .i64 x.n, .slice xo1 x.l.length xg1, .slice xo2 x.ds.length xg2, .slice xo3 x.al.length xg3]) (xok : (okz h).ex x (d + 1) = true) (xc : (cnt h).ex x ≤ 200) (xr2 : RowOf (LtK B) w (reads (LtK B) w h).al 8 o xs) (hxl : xs.length ≤ maxLen) (hxl1 : 1 ≤ xs.length) (hxo : ∀ y, y ∈ xs → altB y = true ∧ (okz h).al y (d + 1) = true) (hxc : sumZ (cnt h).al xs ≤ 200) (hlen : l.length + ([99, 97, 115, 101, 32] ++ (atL (txt h).ex x 1 n ++ ([32, 111, 102] ++ linesL (txt h).al xs (n + 2)))).length ≤ 10000000) :
    Calls Tryz.prog 68 #[.pointer (some ⟨b, 0, none⟩), .iface 169 (.agg #[.int .i64 x.k, .string x.s, .int .i64 x.n, .slice xo1 x.l.length xg1, .slice xo2 x.ds.length xg2, .slice xo3 x.al.length xg3, .slice o xs.length c]), .int .i64 n] w (Wr B b l ([99, 97, 115, 101, 32] ++ (atL (txt h).ex x 1 n ++ ([32, 111, 102] ++ linesL (txt h).al xs (n + 2)))) w) := by
  have XR := hide xr
  clear xr
  have XR2 := hide xr2
  have HXO := hide hxo
  clear xr2 hxo
  have wn : IntKind.i64.wrap ((n : Int) + 2) = (n : Int) + 2 := px_add (by omega) (by omega) (by omega) (by omega)
  have HE := hide hE
  have HP := hide hP
  have HD := hide hD
  have HA := hide hA
  have TB := hide htb
  have S0 := hide (Stp.first hpg #[.int .i64 x.k, .string x.s, .int .i64 x.n, .slice xo1 x.l.length xg1, .slice xo2 x.ds.length xg2, .slice xo3 x.al.length xg3, .slice o xs.length c] 169)
  have hn1 : n ≤ 108 := by omega
  have hlen2 := hlen
  try simp only [List.length_append, List.length_cons, List.length_nil, bl_len, padL_len] at hlen2
  clear hE hP hD hA hpg htb hlen
  have t1 := tb_7_1 (.agg #[.int .i64 x.k, .string x.s, .int .i64 x.n, .slice xo1 x.l.length xg1, .slice xo2 x.ds.length xg2, .slice xo3 x.al.length xg3, .slice o xs.length c])
  have t2 := tb_7_2 (.agg #[.int .i64 x.k, .string x.s, .int .i64 x.n, .slice xo1 x.l.length xg1, .slice xo2 x.ds.length xg2, .slice xo3 x.al.length xg3, .slice o xs.length c])
  have t3 := tb_7_3 (.agg #[.int .i64 x.k, .string x.s, .int .i64 x.n, .slice xo1 x.l.length xg1, .slice xo2 x.ds.length xg2, .slice xo3 x.al.length xg3, .slice o xs.length c])
  have t4 := tb_7_4 (.agg #[.int .i64 x.k, .string x.s, .int .i64 x.n, .slice xo1 x.l.length xg1, .slice xo2 x.ds.length xg2, .slice xo3 x.al.length xg3, .slice o xs.length c])
  have t5 := tb_7_5 (.agg #[.int .i64 x.k, .string x.s, .int .i64 x.n, .slice xo1 x.l.length xg1, .slice xo2 x.ds.length xg2, .slice xo3 x.al.length xg3, .slice o xs.length c])
  have t6 := tb_7_6 (.agg #[.int .i64 x.k, .string x.s, .int .i64 x.n, .slice xo1 x.l.length xg1, .slice xo2 x.ds.length xg2, .slice xo3 x.al.length xg3, .slice o xs.length c])
  have t7 := tb_7_7 (.agg #[.int .i64 x.k, .string x.s, .int .i64 x.n, .slice xo1 x.l.length xg1, .slice xo2 x.ds.length xg2, .slice xo3 x.al.length xg3, .slice o xs.length c])
  go_enter Tryz.func68, Tryz.ntmps68
  have y0 := cell_of S0.out.bx 0
  have y1 := cell_of S0.out.bx 1
  have y2 := cell_of S0.out.bx 2
  have y3 := cell_of S0.out.bx 3
  have y4 := cell_of S0.out.bx 4
  have y5 := cell_of S0.out.bx 5
  have y6 := cell_of S0.out.bx 6
  simp only [List.getElem?_toArray, List.getElem?_cons_succ, List.getElem?_cons_zero] at y0 y1 y2 y3 y4 y5 y6
  go_wp2_with fail
  refine (put1g B b _ ⟨#[99, 97, 115, 101, 32]⟩ (w.alloc (.cells #[.int .i64 x.k, .string x.s, .int .i64 x.n, .slice xo1 x.l.length xg1, .slice xo2 x.ds.length xg2, .slice xo3 x.al.length xg3, .slice o xs.length c] 169)) _ S0.out.pg (by first | rfl | simp) (by (try simp only [List.length_append, List.length_cons, List.length_nil, bl_len, padL_len, ofL_size, lit_size, List.size_toArray]); omega)).mono ?_
  rintro e w1 ⟨rfl, h1, f1⟩
  have S1 := hide (S0.out.next h1 f1 (by decide) (by decide))
  clear h1 f1
  clear y0 y1 y2 y3 y4 y5 y6
  have y0 := cell_of S1.out.bx 0
  have y1 := cell_of S1.out.bx 1
  have y2 := cell_of S1.out.bx 2
  have y3 := cell_of S1.out.bx 3
  have y4 := cell_of S1.out.bx 4
  have y5 := cell_of S1.out.bx 5
  have y6 := cell_of S1.out.bx 6
  simp only [List.getElem?_toArray, List.getElem?_cons_succ, List.getElem?_cons_zero] at y0 y1 y2 y3 y4 y5 y6
  go_wp2_with fail
  refine (HP.out x _ w1 B b _ n (d + 1) 1 ((reads_fr S1.out.fr h).1 _ _ XR.out) xok S1.out.pg (TB.out.on S1.out.fr.below) (by omega) xc (by (try simp only [List.length_append, List.length_cons, List.length_nil, bl_len, padL_len, ofL_size, lit_size, List.size_toArray]); omega) (by omega)).mono ?_
  rintro e w2 ⟨rfl, h1, f1⟩
  have S2 := hide (S1.out.next h1 f1 (by decide) (by decide))
  clear h1 f1
  clear y0 y1 y2 y3 y4 y5 y6
  have y0 := cell_of S2.out.bx 0
  have y1 := cell_of S2.out.bx 1
  have y2 := cell_of S2.out.bx 2
  have y3 := cell_of S2.out.bx 3
  have y4 := cell_of S2.out.bx 4
  have y5 := cell_of S2.out.bx 5
  have y6 := cell_of S2.out.bx 6
  simp only [List.getElem?_toArray, List.getElem?_cons_succ, List.getElem?_cons_zero] at y0 y1 y2 y3 y4 y5 y6
  go_wp2_with fail
  refine (put1g B b _ ⟨#[32, 111, 102]⟩ w2 _ S2.out.pg (by first | rfl | simp) (by (try simp only [List.length_append, List.length_cons, List.length_nil, bl_len, padL_len, ofL_size, lit_size, List.size_toArray]); omega)).mono ?_
  rintro e w3 ⟨rfl, h1, f1⟩
  have S3 := hide (S2.out.next h1 f1 (by decide) (by decide))
  clear h1 f1
  clear y0 y1 y2 y3 y4 y5 y6
  have y0 := cell_of S3.out.bx 0
  have y1 := cell_of S3.out.bx 1
  have y2 := cell_of S3.out.bx 2
  have y3 := cell_of S3.out.bx 3
  have y4 := cell_of S3.out.bx 4
  have y5 := cell_of S3.out.bx 5
  have y6 := cell_of S3.out.bx 6
  simp only [List.getElem?_toArray, List.getElem?_cons_succ, List.getElem?_cons_zero] at y0 y1 y2 y3 y4 y5 y6
  go_wp2_with fail
  refine (HA.out xs o c w3 B b _ (n + 2) (d + 1) (XR2.out.frame S3.out.fr.stays (fun _ h => h) (reads_fr S3.out.fr h).2.2) hxl hxl1 HXO.out (by omega) S3.out.pg (TB.out.on S3.out.fr.below) (by omega) hxc (by (try simp only [List.length_append, List.length_cons, List.length_nil, bl_len, padL_len, ofL_size, lit_size, List.size_toArray]); omega)).mono ?_
  rintro e w4 ⟨rfl, h1, f1⟩
  have S4 := hide (S3.out.next h1 f1 (by decide) (by decide))
  clear h1 f1
  clear y0 y1 y2 y3 y4 y5 y6
  have y0 := cell_of S4.out.bx 0
  have y1 := cell_of S4.out.bx 1
  have y2 := cell_of S4.out.bx 2
  have y3 := cell_of S4.out.bx 3
  have y4 := cell_of S4.out.bx 4
  have y5 := cell_of S4.out.bx 5
  have y6 := cell_of S4.out.bx 6
  simp only [List.getElem?_toArray, List.getElem?_cons_succ, List.getElem?_cons_zero] at y0 y1 y2 y3 y4 y5 y6
  go_wp2
  go_end0
  refine ⟨rfl, ?_, S4.out.fr⟩
  have key := S4.out.pg
  have hE : l ++ bl ⟨#[99, 97, 115, 101, 32]⟩ ++ atL (txt h).ex x 1 n ++ bl ⟨#[32, 111, 102]⟩ ++ linesL (txt h).al xs (n + 2) = l ++ ([99, 97, 115, 101, 32] ++ (atL (txt h).ex x 1 n ++ ([32, 111, 102] ++ linesL (txt h).al xs (n + 2)))) := by simp only [bl_mk, bl_ofL, List.append_assoc, List.cons_append, List.nil_append]
  rw [hE] at key
  exact key
end Go.Proofs.YteoghpefilghdakGreatDoor
namespace Go.Proofs.YteoghpefilghdakGreatDoor
open Go.ChangeShapes Go.WideShapes Go.ChangeAt Go.RowKit
set_option linter.unusedVariables false
set_option linter.unusedSimpArgs false

set_option maxHeartbeats 2000000 in
set_option maxRecDepth 100000 in
theorem pform_8 {h : Nat} (hE : PxEx h) (hP : PxPa h) (hD : PxDs h) (hA : PxAs h) (x : Tr) (xo1 xo2 xo3 : Option Addr) (xg1 xg2 xg3 : Nat) (y : Tr) (yo1 yo2 yo3 : Option Addr) (yg1 yg2 yg3 : Nat) (z : Tr) (zo1 zo2 zo3 : Option Addr) (zg1 zg2 zg3 : Nat) (w : World) (B b : Nat) (l : List UInt8) (n : Nat) (d : Int) (hpg : Pg B b l w) (htb : Tb B w) (hn : (n : Int) ≤ 60 + 4 * d) (hd : d ≤ 12) (xr : (reads (LtK B) w h).ex x [.int .i64 x.k, .string x.s, .int .i64 x.n, .slice xo1 x.l.length xg1, .slice xo2 x.ds.length xg2, .slice xo3 x.al.length xg3]) (xok : (okz h).ex x (d + 1) = true) (xc : (cnt h).ex x ≤ 200) (yr : (reads (LtK B) w h).ex y [.int .i64 y.k, .string y.s, .int .i64 y.n, .slice yo1 y.l.length yg1, .slice yo2 y.ds.length yg2, .slice yo3 y.al.length yg3]) (yok : (okz h).ex y (d + 1) = true) (yc : (cnt h).ex y ≤ 200) (zr : (reads (LtK B) w h).ex z [.int .i64 z.k, .string z.s, .int .i64 z.n, .slice zo1 z.l.length zg1, .slice zo2 z.ds.length zg2, .slice zo3 z.al.length zg3]) (zok : (okz h).ex z (d + 1) = true) (zc : (cnt h).ex z ≤ 200) (hlen : l.length + ([105, 102, 32] ++ (atL (txt h).ex x 1 n ++ ([32, 116, 104, 101, 110, 32] ++ (atL (txt h).ex y 1 n ++ ([32, 101, 108, 115, 101, 32] ++ (txt h).ex z n))))).length ≤ 10000000) :
    Calls Tryz.prog 68 #[.pointer (some ⟨b, 0, none⟩), .iface 172 (.agg #[.int .i64 x.k, .string x.s, .int .i64 x.n, .slice xo1 x.l.length xg1, .slice xo2 x.ds.length xg2, .slice xo3 x.al.length xg3, .int .i64 y.k, .string y.s, .int .i64 y.n, .slice yo1 y.l.length yg1, .slice yo2 y.ds.length yg2, .slice yo3 y.al.length yg3, .int .i64 z.k, .string z.s, .int .i64 z.n, .slice zo1 z.l.length zg1, .slice zo2 z.ds.length zg2, .slice zo3 z.al.length zg3]), .int .i64 n] w (Wr B b l ([105, 102, 32] ++ (atL (txt h).ex x 1 n ++ ([32, 116, 104, 101, 110, 32] ++ (atL (txt h).ex y 1 n ++ ([32, 101, 108, 115, 101, 32] ++ (txt h).ex z n))))) w) := by
  have XR := hide xr
  clear xr
  have YR := hide yr
  clear yr
  have ZR := hide zr
  clear zr
  have HE := hide hE
  have HP := hide hP
  have HD := hide hD
  have HA := hide hA
  have TB := hide htb
  have S0 := hide (Stp.first hpg #[.int .i64 x.k, .string x.s, .int .i64 x.n, .slice xo1 x.l.length xg1, .slice xo2 x.ds.length xg2, .slice xo3 x.al.length xg3, .int .i64 y.k, .string y.s, .int .i64 y.n, .slice yo1 y.l.length yg1, .slice yo2 y.ds.length yg2, .slice yo3 y.al.length yg3, .int .i64 z.k, .string z.s, .int .i64 z.n, .slice zo1 z.l.length zg1, .slice zo2 z.ds.length zg2, .slice zo3 z.al.length zg3] 172)
  have hn1 : n ≤ 108 := by omega
  have hlen2 := hlen
  try simp only [List.length_append, List.length_cons, List.length_nil, bl_len, padL_len] at hlen2
  clear hE hP hD hA hpg htb hlen
  have t1 := tb_8_1 (.agg #[.int .i64 x.k, .string x.s, .int .i64 x.n, .slice xo1 x.l.length xg1, .slice xo2 x.ds.length xg2, .slice xo3 x.al.length xg3, .int .i64 y.k, .string y.s, .int .i64 y.n, .slice yo1 y.l.length yg1, .slice yo2 y.ds.length yg2, .slice yo3 y.al.length yg3, .int .i64 z.k, .string z.s, .int .i64 z.n, .slice zo1 z.l.length zg1, .slice zo2 z.ds.length zg2, .slice zo3 z.al.length zg3])
  have t2 := tb_8_2 (.agg #[.int .i64 x.k, .string x.s, .int .i64 x.n, .slice xo1 x.l.length xg1, .slice xo2 x.ds.length xg2, .slice xo3 x.al.length xg3, .int .i64 y.k, .string y.s, .int .i64 y.n, .slice yo1 y.l.length yg1, .slice yo2 y.ds.length yg2, .slice yo3 y.al.length yg3, .int .i64 z.k, .string z.s, .int .i64 z.n, .slice zo1 z.l.length zg1, .slice zo2 z.ds.length zg2, .slice zo3 z.al.length zg3])
  have t3 := tb_8_3 (.agg #[.int .i64 x.k, .string x.s, .int .i64 x.n, .slice xo1 x.l.length xg1, .slice xo2 x.ds.length xg2, .slice xo3 x.al.length xg3, .int .i64 y.k, .string y.s, .int .i64 y.n, .slice yo1 y.l.length yg1, .slice yo2 y.ds.length yg2, .slice yo3 y.al.length yg3, .int .i64 z.k, .string z.s, .int .i64 z.n, .slice zo1 z.l.length zg1, .slice zo2 z.ds.length zg2, .slice zo3 z.al.length zg3])
  have t4 := tb_8_4 (.agg #[.int .i64 x.k, .string x.s, .int .i64 x.n, .slice xo1 x.l.length xg1, .slice xo2 x.ds.length xg2, .slice xo3 x.al.length xg3, .int .i64 y.k, .string y.s, .int .i64 y.n, .slice yo1 y.l.length yg1, .slice yo2 y.ds.length yg2, .slice yo3 y.al.length yg3, .int .i64 z.k, .string z.s, .int .i64 z.n, .slice zo1 z.l.length zg1, .slice zo2 z.ds.length zg2, .slice zo3 z.al.length zg3])
  have t5 := tb_8_5 (.agg #[.int .i64 x.k, .string x.s, .int .i64 x.n, .slice xo1 x.l.length xg1, .slice xo2 x.ds.length xg2, .slice xo3 x.al.length xg3, .int .i64 y.k, .string y.s, .int .i64 y.n, .slice yo1 y.l.length yg1, .slice yo2 y.ds.length yg2, .slice yo3 y.al.length yg3, .int .i64 z.k, .string z.s, .int .i64 z.n, .slice zo1 z.l.length zg1, .slice zo2 z.ds.length zg2, .slice zo3 z.al.length zg3])
  have t6 := tb_8_6 (.agg #[.int .i64 x.k, .string x.s, .int .i64 x.n, .slice xo1 x.l.length xg1, .slice xo2 x.ds.length xg2, .slice xo3 x.al.length xg3, .int .i64 y.k, .string y.s, .int .i64 y.n, .slice yo1 y.l.length yg1, .slice yo2 y.ds.length yg2, .slice yo3 y.al.length yg3, .int .i64 z.k, .string z.s, .int .i64 z.n, .slice zo1 z.l.length zg1, .slice zo2 z.ds.length zg2, .slice zo3 z.al.length zg3])
  have t7 := tb_8_7 (.agg #[.int .i64 x.k, .string x.s, .int .i64 x.n, .slice xo1 x.l.length xg1, .slice xo2 x.ds.length xg2, .slice xo3 x.al.length xg3, .int .i64 y.k, .string y.s, .int .i64 y.n, .slice yo1 y.l.length yg1, .slice yo2 y.ds.length yg2, .slice yo3 y.al.length yg3, .int .i64 z.k, .string z.s, .int .i64 z.n, .slice zo1 z.l.length zg1, .slice zo2 z.ds.length zg2, .slice zo3 z.al.length zg3])
  have t8 := tb_8_8 (.agg #[.int .i64 x.k, .string x.s, .int .i64 x.n, .slice xo1 x.l.length xg1, .slice xo2 x.ds.length xg2, .slice xo3 x.al.length xg3, .int .i64 y.k, .string y.s, .int .i64 y.n, .slice yo1 y.l.length yg1, .slice yo2 y.ds.length yg2, .slice yo3 y.al.length yg3, .int .i64 z.k, .string z.s, .int .i64 z.n, .slice zo1 z.l.length zg1, .slice zo2 z.ds.length zg2, .slice zo3 z.al.length zg3])
  go_enter Tryz.func68, Tryz.ntmps68
  have y0 := cell_of S0.out.bx 0
  have y1 := cell_of S0.out.bx 1
  have y2 := cell_of S0.out.bx 2
  have y3 := cell_of S0.out.bx 3
  have y4 := cell_of S0.out.bx 4
  have y5 := cell_of S0.out.bx 5
  have y6 := cell_of S0.out.bx 6
  have y7 := cell_of S0.out.bx 7
  have y8 := cell_of S0.out.bx 8
  have y9 := cell_of S0.out.bx 9
  have y10 := cell_of S0.out.bx 10
  have y11 := cell_of S0.out.bx 11
  have y12 := cell_of S0.out.bx 12
  have y13 := cell_of S0.out.bx 13
  have y14 := cell_of S0.out.bx 14
  have y15 := cell_of S0.out.bx 15
  have y16 := cell_of S0.out.bx 16
  have y17 := cell_of S0.out.bx 17
  simp only [List.getElem?_toArray, List.getElem?_cons_succ, List.getElem?_cons_zero] at y0 y1 y2 y3 y4 y5 y6 y7 y8 y9 y10 y11 y12 y13 y14 y15 y16 y17
  go_wp2_with fail
  refine (put1g B b _ ⟨#[105, 102, 32]⟩ (w.alloc (.cells #[.int .i64 x.k, .string x.s, .int .i64 x.n, .slice xo1 x.l.length xg1, .slice xo2 x.ds.length xg2, .slice xo3 x.al.length xg3, .int .i64 y.k, .string y.s, .int .i64 y.n, .slice yo1 y.l.length yg1, .slice yo2 y.ds.length yg2, .slice yo3 y.al.length yg3, .int .i64 z.k, .string z.s, .int .i64 z.n, .slice zo1 z.l.length zg1, .slice zo2 z.ds.length zg2, .slice zo3 z.al.length zg3] 172)) _ S0.out.pg (by first | rfl | simp) (by (try simp only [List.length_append, List.length_cons, List.length_nil, bl_len, padL_len, ofL_size, lit_size, List.size_toArray]); omega)).mono ?_
  rintro e w1 ⟨rfl, h1, f1⟩
  have S1 := hide (S0.out.next h1 f1 (by decide) (by decide))
  clear h1 f1
  clear y0 y1 y2 y3 y4 y5 y6 y7 y8 y9 y10 y11 y12 y13 y14 y15 y16 y17
  have y0 := cell_of S1.out.bx 0
  have y1 := cell_of S1.out.bx 1
  have y2 := cell_of S1.out.bx 2
  have y3 := cell_of S1.out.bx 3
  have y4 := cell_of S1.out.bx 4
  have y5 := cell_of S1.out.bx 5
  have y6 := cell_of S1.out.bx 6
  have y7 := cell_of S1.out.bx 7
  have y8 := cell_of S1.out.bx 8
  have y9 := cell_of S1.out.bx 9
  have y10 := cell_of S1.out.bx 10
  have y11 := cell_of S1.out.bx 11
  have y12 := cell_of S1.out.bx 12
  have y13 := cell_of S1.out.bx 13
  have y14 := cell_of S1.out.bx 14
  have y15 := cell_of S1.out.bx 15
  have y16 := cell_of S1.out.bx 16
  have y17 := cell_of S1.out.bx 17
  simp only [List.getElem?_toArray, List.getElem?_cons_succ, List.getElem?_cons_zero] at y0 y1 y2 y3 y4 y5 y6 y7 y8 y9 y10 y11 y12 y13 y14 y15 y16 y17
  go_wp2_with fail
  refine (HP.out x _ w1 B b _ n (d + 1) 1 ((reads_fr S1.out.fr h).1 _ _ XR.out) xok S1.out.pg (TB.out.on S1.out.fr.below) (by omega) xc (by (try simp only [List.length_append, List.length_cons, List.length_nil, bl_len, padL_len, ofL_size, lit_size, List.size_toArray]); omega) (by omega)).mono ?_
  rintro e w2 ⟨rfl, h1, f1⟩
  have S2 := hide (S1.out.next h1 f1 (by decide) (by decide))
  clear h1 f1
  clear y0 y1 y2 y3 y4 y5 y6 y7 y8 y9 y10 y11 y12 y13 y14 y15 y16 y17
  have y0 := cell_of S2.out.bx 0
  have y1 := cell_of S2.out.bx 1
  have y2 := cell_of S2.out.bx 2
  have y3 := cell_of S2.out.bx 3
  have y4 := cell_of S2.out.bx 4
  have y5 := cell_of S2.out.bx 5
  have y6 := cell_of S2.out.bx 6
  have y7 := cell_of S2.out.bx 7
  have y8 := cell_of S2.out.bx 8
  have y9 := cell_of S2.out.bx 9
  have y10 := cell_of S2.out.bx 10
  have y11 := cell_of S2.out.bx 11
  have y12 := cell_of S2.out.bx 12
  have y13 := cell_of S2.out.bx 13
  have y14 := cell_of S2.out.bx 14
  have y15 := cell_of S2.out.bx 15
  have y16 := cell_of S2.out.bx 16
  have y17 := cell_of S2.out.bx 17
  simp only [List.getElem?_toArray, List.getElem?_cons_succ, List.getElem?_cons_zero] at y0 y1 y2 y3 y4 y5 y6 y7 y8 y9 y10 y11 y12 y13 y14 y15 y16 y17
  go_wp2_with fail
  refine (put1g B b _ ⟨#[32, 116, 104, 101, 110, 32]⟩ w2 _ S2.out.pg (by first | rfl | simp) (by (try simp only [List.length_append, List.length_cons, List.length_nil, bl_len, padL_len, ofL_size, lit_size, List.size_toArray]); omega)).mono ?_
  rintro e w3 ⟨rfl, h1, f1⟩
  have S3 := hide (S2.out.next h1 f1 (by decide) (by decide))
  clear h1 f1
  clear y0 y1 y2 y3 y4 y5 y6 y7 y8 y9 y10 y11 y12 y13 y14 y15 y16 y17
  have y0 := cell_of S3.out.bx 0
  have y1 := cell_of S3.out.bx 1
  have y2 := cell_of S3.out.bx 2
  have y3 := cell_of S3.out.bx 3
  have y4 := cell_of S3.out.bx 4
  have y5 := cell_of S3.out.bx 5
  have y6 := cell_of S3.out.bx 6
  have y7 := cell_of S3.out.bx 7
  have y8 := cell_of S3.out.bx 8
  have y9 := cell_of S3.out.bx 9
  have y10 := cell_of S3.out.bx 10
  have y11 := cell_of S3.out.bx 11
  have y12 := cell_of S3.out.bx 12
  have y13 := cell_of S3.out.bx 13
  have y14 := cell_of S3.out.bx 14
  have y15 := cell_of S3.out.bx 15
  have y16 := cell_of S3.out.bx 16
  have y17 := cell_of S3.out.bx 17
  simp only [List.getElem?_toArray, List.getElem?_cons_succ, List.getElem?_cons_zero] at y0 y1 y2 y3 y4 y5 y6 y7 y8 y9 y10 y11 y12 y13 y14 y15 y16 y17
  go_wp2_with fail
  refine (HP.out y _ w3 B b _ n (d + 1) 1 ((reads_fr S3.out.fr h).1 _ _ YR.out) yok S3.out.pg (TB.out.on S3.out.fr.below) (by omega) yc (by (try simp only [List.length_append, List.length_cons, List.length_nil, bl_len, padL_len, ofL_size, lit_size, List.size_toArray]); omega) (by omega)).mono ?_
  rintro e w4 ⟨rfl, h1, f1⟩
  have S4 := hide (S3.out.next h1 f1 (by decide) (by decide))
  clear h1 f1
  clear y0 y1 y2 y3 y4 y5 y6 y7 y8 y9 y10 y11 y12 y13 y14 y15 y16 y17
  have y0 := cell_of S4.out.bx 0
  have y1 := cell_of S4.out.bx 1
  have y2 := cell_of S4.out.bx 2
  have y3 := cell_of S4.out.bx 3
  have y4 := cell_of S4.out.bx 4
  have y5 := cell_of S4.out.bx 5
  have y6 := cell_of S4.out.bx 6
  have y7 := cell_of S4.out.bx 7
  have y8 := cell_of S4.out.bx 8
  have y9 := cell_of S4.out.bx 9
  have y10 := cell_of S4.out.bx 10
  have y11 := cell_of S4.out.bx 11
  have y12 := cell_of S4.out.bx 12
  have y13 := cell_of S4.out.bx 13
  have y14 := cell_of S4.out.bx 14
  have y15 := cell_of S4.out.bx 15
  have y16 := cell_of S4.out.bx 16
  have y17 := cell_of S4.out.bx 17
  simp only [List.getElem?_toArray, List.getElem?_cons_succ, List.getElem?_cons_zero] at y0 y1 y2 y3 y4 y5 y6 y7 y8 y9 y10 y11 y12 y13 y14 y15 y16 y17
  go_wp2_with fail
  refine (put1g B b _ ⟨#[32, 101, 108, 115, 101, 32]⟩ w4 _ S4.out.pg (by first | rfl | simp) (by (try simp only [List.length_append, List.length_cons, List.length_nil, bl_len, padL_len, ofL_size, lit_size, List.size_toArray]); omega)).mono ?_
  rintro e w5 ⟨rfl, h1, f1⟩
  have S5 := hide (S4.out.next h1 f1 (by decide) (by decide))
  clear h1 f1
  clear y0 y1 y2 y3 y4 y5 y6 y7 y8 y9 y10 y11 y12 y13 y14 y15 y16 y17
  have y0 := cell_of S5.out.bx 0
  have y1 := cell_of S5.out.bx 1
  have y2 := cell_of S5.out.bx 2
  have y3 := cell_of S5.out.bx 3
  have y4 := cell_of S5.out.bx 4
  have y5 := cell_of S5.out.bx 5
  have y6 := cell_of S5.out.bx 6
  have y7 := cell_of S5.out.bx 7
  have y8 := cell_of S5.out.bx 8
  have y9 := cell_of S5.out.bx 9
  have y10 := cell_of S5.out.bx 10
  have y11 := cell_of S5.out.bx 11
  have y12 := cell_of S5.out.bx 12
  have y13 := cell_of S5.out.bx 13
  have y14 := cell_of S5.out.bx 14
  have y15 := cell_of S5.out.bx 15
  have y16 := cell_of S5.out.bx 16
  have y17 := cell_of S5.out.bx 17
  simp only [List.getElem?_toArray, List.getElem?_cons_succ, List.getElem?_cons_zero] at y0 y1 y2 y3 y4 y5 y6 y7 y8 y9 y10 y11 y12 y13 y14 y15 y16 y17
  go_wp2_with fail
  refine (HE.out z _ w5 B b _ n (d + 1) ((reads_fr S5.out.fr h).1 _ _ ZR.out) zok S5.out.pg (TB.out.on S5.out.fr.below) (by omega) zc (by (try simp only [List.length_append, List.length_cons, List.length_nil, bl_len, padL_len, ofL_size, lit_size, List.size_toArray]); omega)).mono ?_
  rintro e w6 ⟨rfl, h1, f1⟩
  have S6 := hide (S5.out.next h1 f1 (by decide) (by decide))
  clear h1 f1
  clear y0 y1 y2 y3 y4 y5 y6 y7 y8 y9 y10 y11 y12 y13 y14 y15 y16 y17
  have y0 := cell_of S6.out.bx 0
  have y1 := cell_of S6.out.bx 1
  have y2 := cell_of S6.out.bx 2
  have y3 := cell_of S6.out.bx 3
  have y4 := cell_of S6.out.bx 4
  have y5 := cell_of S6.out.bx 5
  have y6 := cell_of S6.out.bx 6
  have y7 := cell_of S6.out.bx 7
  have y8 := cell_of S6.out.bx 8
  have y9 := cell_of S6.out.bx 9
  have y10 := cell_of S6.out.bx 10
  have y11 := cell_of S6.out.bx 11
  have y12 := cell_of S6.out.bx 12
  have y13 := cell_of S6.out.bx 13
  have y14 := cell_of S6.out.bx 14
  have y15 := cell_of S6.out.bx 15
  have y16 := cell_of S6.out.bx 16
  have y17 := cell_of S6.out.bx 17
  simp only [List.getElem?_toArray, List.getElem?_cons_succ, List.getElem?_cons_zero] at y0 y1 y2 y3 y4 y5 y6 y7 y8 y9 y10 y11 y12 y13 y14 y15 y16 y17
  go_wp2
  go_end0
  refine ⟨rfl, ?_, S6.out.fr⟩
  have key := S6.out.pg
  have hE : l ++ bl ⟨#[105, 102, 32]⟩ ++ atL (txt h).ex x 1 n ++ bl ⟨#[32, 116, 104, 101, 110, 32]⟩ ++ atL (txt h).ex y 1 n ++ bl ⟨#[32, 101, 108, 115, 101, 32]⟩ ++ (txt h).ex z n = l ++ ([105, 102, 32] ++ (atL (txt h).ex x 1 n ++ ([32, 116, 104, 101, 110, 32] ++ (atL (txt h).ex y 1 n ++ ([32, 101, 108, 115, 101, 32] ++ (txt h).ex z n))))) := by simp only [bl_mk, bl_ofL, List.append_assoc, List.cons_append, List.nil_append]
  rw [hE] at key
  exact key
end Go.Proofs.YteoghpefilghdakGreatDoor
namespace Go.Proofs.YteoghpefilghdakGreatDoor
open Go.ChangeShapes Go.WideShapes Go.ChangeAt Go.RowKit
set_option linter.unusedVariables false
set_option linter.unusedSimpArgs false

set_option maxHeartbeats 2000000 in
set_option maxRecDepth 100000 in
theorem pform_9 {h : Nat} (hE : PxEx h) (hP : PxPa h) (hD : PxDs h) (hA : PxAs h) (s : ByteArray) (x : Tr) (xo1 xo2 xo3 : Option Addr) (xg1 xg2 xg3 : Nat) (y : Tr) (yo1 yo2 yo3 : Option Addr) (yg1 yg2 yg3 : Nat) (w : World) (B b : Nat) (l : List UInt8) (n : Nat) (d : Int) (hpg : Pg B b l w) (htb : Tb B w) (hn : (n : Int) ≤ 60 + 4 * d) (hd : d ≤ 12) (xr : (reads (LtK B) w h).ex x [.int .i64 x.k, .string x.s, .int .i64 x.n, .slice xo1 x.l.length xg1, .slice xo2 x.ds.length xg2, .slice xo3 x.al.length xg3]) (xok : (okz h).ex x (d + 1) = true) (xc : (cnt h).ex x ≤ 200) (yr : (reads (LtK B) w h).ex y [.int .i64 y.k, .string y.s, .int .i64 y.n, .slice yo1 y.l.length yg1, .slice yo2 y.ds.length yg2, .slice yo3 y.al.length yg3]) (yok : (okz h).ex y (d + 1) = true) (yc : (cnt h).ex y ≤ 200) (hs2 : s.size ≤ 2) (hlen : l.length + (atL (txt h).ex x (leftL (opLev s)) n ++ (32 :: (bl s ++ (32 :: atL (txt h).ex y (opLev s + 1) n)))).length ≤ 10000000) :
    Calls Tryz.prog 68 #[.pointer (some ⟨b, 0, none⟩), .iface 174 (.agg #[.string s, .int .i64 x.k, .string x.s, .int .i64 x.n, .slice xo1 x.l.length xg1, .slice xo2 x.ds.length xg2, .slice xo3 x.al.length xg3, .int .i64 y.k, .string y.s, .int .i64 y.n, .slice yo1 y.l.length yg1, .slice yo2 y.ds.length yg2, .slice yo3 y.al.length yg3]), .int .i64 n] w (Wr B b l (atL (txt h).ex x (leftL (opLev s)) n ++ (32 :: (bl s ++ (32 :: atL (txt h).ex y (opLev s + 1) n)))) w) := by
  have XR := hide xr
  clear xr
  have YR := hide yr
  clear yr
  have hL := opLev_le s
  have hLL : leftL (opLev s) ≤ 3 := by unfold leftL; split <;> omega
  have wl : IntKind.i64.wrap (((opLev s : Nat) : Int) + 1) = ((opLev s : Nat) : Int) + 1 := px_add (by omega) (by omega) (by omega) (by omega)
  have HE := hide hE
  have HP := hide hP
  have HD := hide hD
  have HA := hide hA
  have TB := hide htb
  have S0 := hide (Stp.first hpg #[.string s, .int .i64 x.k, .string x.s, .int .i64 x.n, .slice xo1 x.l.length xg1, .slice xo2 x.ds.length xg2, .slice xo3 x.al.length xg3, .int .i64 y.k, .string y.s, .int .i64 y.n, .slice yo1 y.l.length yg1, .slice yo2 y.ds.length yg2, .slice yo3 y.al.length yg3] 174)
  have hn1 : n ≤ 108 := by omega
  have hlen2 := hlen
  try simp only [List.length_append, List.length_cons, List.length_nil, bl_len, padL_len] at hlen2
  clear hE hP hD hA hpg htb hlen
  have t1 := tb_9_1 (.agg #[.string s, .int .i64 x.k, .string x.s, .int .i64 x.n, .slice xo1 x.l.length xg1, .slice xo2 x.ds.length xg2, .slice xo3 x.al.length xg3, .int .i64 y.k, .string y.s, .int .i64 y.n, .slice yo1 y.l.length yg1, .slice yo2 y.ds.length yg2, .slice yo3 y.al.length yg3])
  have t2 := tb_9_2 (.agg #[.string s, .int .i64 x.k, .string x.s, .int .i64 x.n, .slice xo1 x.l.length xg1, .slice xo2 x.ds.length xg2, .slice xo3 x.al.length xg3, .int .i64 y.k, .string y.s, .int .i64 y.n, .slice yo1 y.l.length yg1, .slice yo2 y.ds.length yg2, .slice yo3 y.al.length yg3])
  have t3 := tb_9_3 (.agg #[.string s, .int .i64 x.k, .string x.s, .int .i64 x.n, .slice xo1 x.l.length xg1, .slice xo2 x.ds.length xg2, .slice xo3 x.al.length xg3, .int .i64 y.k, .string y.s, .int .i64 y.n, .slice yo1 y.l.length yg1, .slice yo2 y.ds.length yg2, .slice yo3 y.al.length yg3])
  have t4 := tb_9_4 (.agg #[.string s, .int .i64 x.k, .string x.s, .int .i64 x.n, .slice xo1 x.l.length xg1, .slice xo2 x.ds.length xg2, .slice xo3 x.al.length xg3, .int .i64 y.k, .string y.s, .int .i64 y.n, .slice yo1 y.l.length yg1, .slice yo2 y.ds.length yg2, .slice yo3 y.al.length yg3])
  have t5 := tb_9_5 (.agg #[.string s, .int .i64 x.k, .string x.s, .int .i64 x.n, .slice xo1 x.l.length xg1, .slice xo2 x.ds.length xg2, .slice xo3 x.al.length xg3, .int .i64 y.k, .string y.s, .int .i64 y.n, .slice yo1 y.l.length yg1, .slice yo2 y.ds.length yg2, .slice yo3 y.al.length yg3])
  have t6 := tb_9_6 (.agg #[.string s, .int .i64 x.k, .string x.s, .int .i64 x.n, .slice xo1 x.l.length xg1, .slice xo2 x.ds.length xg2, .slice xo3 x.al.length xg3, .int .i64 y.k, .string y.s, .int .i64 y.n, .slice yo1 y.l.length yg1, .slice yo2 y.ds.length yg2, .slice yo3 y.al.length yg3])
  have t7 := tb_9_7 (.agg #[.string s, .int .i64 x.k, .string x.s, .int .i64 x.n, .slice xo1 x.l.length xg1, .slice xo2 x.ds.length xg2, .slice xo3 x.al.length xg3, .int .i64 y.k, .string y.s, .int .i64 y.n, .slice yo1 y.l.length yg1, .slice yo2 y.ds.length yg2, .slice yo3 y.al.length yg3])
  have t8 := tb_9_8 (.agg #[.string s, .int .i64 x.k, .string x.s, .int .i64 x.n, .slice xo1 x.l.length xg1, .slice xo2 x.ds.length xg2, .slice xo3 x.al.length xg3, .int .i64 y.k, .string y.s, .int .i64 y.n, .slice yo1 y.l.length yg1, .slice yo2 y.ds.length yg2, .slice yo3 y.al.length yg3])
  have t9 := tb_9_9 (.agg #[.string s, .int .i64 x.k, .string x.s, .int .i64 x.n, .slice xo1 x.l.length xg1, .slice xo2 x.ds.length xg2, .slice xo3 x.al.length xg3, .int .i64 y.k, .string y.s, .int .i64 y.n, .slice yo1 y.l.length yg1, .slice yo2 y.ds.length yg2, .slice yo3 y.al.length yg3])
  go_enter Tryz.func68, Tryz.ntmps68
  have y0 := cell_of S0.out.bx 0
  have y1 := cell_of S0.out.bx 1
  have y2 := cell_of S0.out.bx 2
  have y3 := cell_of S0.out.bx 3
  have y4 := cell_of S0.out.bx 4
  have y5 := cell_of S0.out.bx 5
  have y6 := cell_of S0.out.bx 6
  have y7 := cell_of S0.out.bx 7
  have y8 := cell_of S0.out.bx 8
  have y9 := cell_of S0.out.bx 9
  have y10 := cell_of S0.out.bx 10
  have y11 := cell_of S0.out.bx 11
  have y12 := cell_of S0.out.bx 12
  simp only [List.getElem?_toArray, List.getElem?_cons_succ, List.getElem?_cons_zero] at y0 y1 y2 y3 y4 y5 y6 y7 y8 y9 y10 y11 y12
  go_wp2_with fail
  refine (tightOfOp_any s _).mono ?_
  rintro e w1 ⟨rfl, rfl⟩
  generalize (w.alloc (.cells #[.string s, .int .i64 x.k, .string x.s, .int .i64 x.n, .slice xo1 x.l.length xg1, .slice xo2 x.ds.length xg2, .slice xo3 x.al.length xg3, .int .i64 y.k, .string y.s, .int .i64 y.n, .slice yo1 y.l.length yg1, .slice yo2 y.ds.length yg2, .slice yo3 y.al.length yg3] 174)) = w0 at *
  have DR : Hid (Below w0.heap.size w0 w0.drew) := (Below.refl _ _).drew
  have S1 := hide (S0.out.next (S0.out.pg.later DR.out) (Fr.of DR.out S0.out.pg.2) (by decide) (by decide))
  have CALL := hide (HP.out x _ w0.drew B b l n (d + 1) (leftL (opLev s)) ((reads_fr S1.out.fr h).1 _ _ XR.out) xok S1.out.pg (TB.out.on S1.out.fr.below) (by omega) xc (by (try simp only [List.length_append, List.length_cons, List.length_nil, bl_len, padL_len, ofL_size, lit_size, List.size_toArray]); omega) (by omega))
  go_wp2_with fail
  go_region_with (first
    | (go_at_call 105; refine (leftOf_any (opLev s) _).mono ?_; rintro e w3 ⟨rfl, rfl⟩)
    | (go_at_call 102; refine CALL.out.mono ?_; rintro e w2 ⟨rfl, h1, f1⟩; have S2 := hide (S1.out.next h1 f1 (by decide) (by decide)); clear h1 f1))
  all_goals
    clear y0 y1 y2 y3 y4 y5 y6 y7 y8 y9 y10 y11 y12
    have y0 := cell_of S2.out.bx 0
    have y1 := cell_of S2.out.bx 1
    have y2 := cell_of S2.out.bx 2
    have y3 := cell_of S2.out.bx 3
    have y4 := cell_of S2.out.bx 4
    have y5 := cell_of S2.out.bx 5
    have y6 := cell_of S2.out.bx 6
    have y7 := cell_of S2.out.bx 7
    have y8 := cell_of S2.out.bx 8
    have y9 := cell_of S2.out.bx 9
    have y10 := cell_of S2.out.bx 10
    have y11 := cell_of S2.out.bx 11
    have y12 := cell_of S2.out.bx 12
    simp only [List.getElem?_toArray, List.getElem?_cons_succ, List.getElem?_cons_zero] at y0 y1 y2 y3 y4 y5 y6 y7 y8 y9 y10 y11 y12
    go_wp2_with fail
    refine (put3g B b _ ⟨#[32]⟩ s ⟨#[32]⟩ w2 _ S2.out.pg (by first | rfl | simp) (by (try simp only [List.length_append, List.length_cons, List.length_nil, bl_len, padL_len, ofL_size, lit_size, List.size_toArray]); omega)).mono ?_
    rintro e w3 ⟨rfl, h1, f1⟩
    have S3 := hide (S2.out.next h1 f1 (by decide) (by decide))
    clear h1 f1
    clear y0 y1 y2 y3 y4 y5 y6 y7 y8 y9 y10 y11 y12
    have y0 := cell_of S3.out.bx 0
    have y1 := cell_of S3.out.bx 1
    have y2 := cell_of S3.out.bx 2
    have y3 := cell_of S3.out.bx 3
    have y4 := cell_of S3.out.bx 4
    have y5 := cell_of S3.out.bx 5
    have y6 := cell_of S3.out.bx 6
    have y7 := cell_of S3.out.bx 7
    have y8 := cell_of S3.out.bx 8
    have y9 := cell_of S3.out.bx 9
    have y10 := cell_of S3.out.bx 10
    have y11 := cell_of S3.out.bx 11
    have y12 := cell_of S3.out.bx 12
    simp only [List.getElem?_toArray, List.getElem?_cons_succ, List.getElem?_cons_zero] at y0 y1 y2 y3 y4 y5 y6 y7 y8 y9 y10 y11 y12
    go_wp2_with fail
    refine (HP.out y _ w3 B b _ n (d + 1) (opLev s + 1) ((reads_fr S3.out.fr h).1 _ _ YR.out) yok S3.out.pg (TB.out.on S3.out.fr.below) (by omega) yc (by (try simp only [List.length_append, List.length_cons, List.length_nil, bl_len, padL_len, ofL_size, lit_size, List.size_toArray]); omega) (by omega)).mono ?_
    rintro e w4 ⟨rfl, h1, f1⟩
    have S4 := hide (S3.out.next h1 f1 (by decide) (by decide))
    clear h1 f1
    clear y0 y1 y2 y3 y4 y5 y6 y7 y8 y9 y10 y11 y12
    have y0 := cell_of S4.out.bx 0
    have y1 := cell_of S4.out.bx 1
    have y2 := cell_of S4.out.bx 2
    have y3 := cell_of S4.out.bx 3
    have y4 := cell_of S4.out.bx 4
    have y5 := cell_of S4.out.bx 5
    have y6 := cell_of S4.out.bx 6
    have y7 := cell_of S4.out.bx 7
    have y8 := cell_of S4.out.bx 8
    have y9 := cell_of S4.out.bx 9
    have y10 := cell_of S4.out.bx 10
    have y11 := cell_of S4.out.bx 11
    have y12 := cell_of S4.out.bx 12
    simp only [List.getElem?_toArray, List.getElem?_cons_succ, List.getElem?_cons_zero] at y0 y1 y2 y3 y4 y5 y6 y7 y8 y9 y10 y11 y12
    go_wp2
    go_end0
    refine ⟨rfl, ?_, S4.out.fr⟩
    have key := S4.out.pg
    have hE : l ++ atL (txt h).ex x (leftL (opLev s)) n ++ (bl ⟨#[32]⟩ ++ (bl s ++ bl ⟨#[32]⟩)) ++ atL (txt h).ex y (opLev s + 1) n = l ++ (atL (txt h).ex x (leftL (opLev s)) n ++ (32 :: (bl s ++ (32 :: atL (txt h).ex y (opLev s + 1) n)))) := by simp only [bl_mk, bl_ofL, List.append_assoc, List.cons_append, List.nil_append]
    rw [hE] at key
    exact key
end Go.Proofs.YteoghpefilghdakGreatDoor
