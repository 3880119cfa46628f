import Derived.Test.YtfomndilhlgikajGreatDoorP33
set_option maxHeartbeats 8000000
set_option maxRecDepth 100000
namespace Go.Proofs.YtfomndilhlgikajGreatDoor.Rd
open Go.ChangeShapes Go.WideShapes Go.ChangeAt Go.RowKit
def vM (w : World) (g : Nat) (v0 v1 v2 v3 v4 v5 v6 v7 v8 v9 v10 v11 v12 v13 v14 v15 v16 v17 : Value) : World := ((((((((((((((((((w.setCell ⟨g, 0, none⟩ v0).setCell ⟨g, 1, none⟩ v1).setCell ⟨g, 2, none⟩ v2).setCell ⟨g, 3, none⟩ v3).setCell ⟨g, 4, none⟩ v4).setCell ⟨g, 5, none⟩ v5).setCell ⟨g, 6, none⟩ v6).setCell ⟨g, 7, none⟩ v7).setCell ⟨g, 8, none⟩ v8).setCell ⟨g, 9, none⟩ v9).setCell ⟨g, 10, none⟩ v10).setCell ⟨g, 11, none⟩ v11).setCell ⟨g, 12, none⟩ v12).setCell ⟨g, 13, none⟩ v13).setCell ⟨g, 14, none⟩ v14).setCell ⟨g, 15, none⟩ v15).setCell ⟨g, 16, none⟩ v16).setCell ⟨g, 17, none⟩ v17)
theorem vJ (w : World) (g : Nat) (v0 v1 v2 v3 v4 v5 v6 v7 v8 v9 v10 v11 v12 v13 v14 v15 v16 v17 : Value) : Keeps (fun k => k ≠ g) w (vM w g v0 v1 v2 v3 v4 v5 v6 v7 v8 v9 v10 v11 v12 v13 v14 v15 v16 v17) := by
 unfold vM
 exact ((((((((((((((((((ak w g 0 v0 (fun h => h rfl)).trans (ak _ g 1 v1 (fun h => h rfl))).trans (ak _ g 2 v2 (fun h => h rfl))).trans (ak _ g 3 v3 (fun h => h rfl))).trans (ak _ g 4 v4 (fun h => h rfl))).trans (ak _ g 5 v5 (fun h => h rfl))).trans (ak _ g 6 v6 (fun h => h rfl))).trans (ak _ g 7 v7 (fun h => h rfl))).trans (ak _ g 8 v8 (fun h => h rfl))).trans (ak _ g 9 v9 (fun h => h rfl))).trans (ak _ g 10 v10 (fun h => h rfl))).trans (ak _ g 11 v11 (fun h => h rfl))).trans (ak _ g 12 v12 (fun h => h rfl))).trans (ak _ g 13 v13 (fun h => h rfl))).trans (ak _ g 14 v14 (fun h => h rfl))).trans (ak _ g 15 v15 (fun h => h rfl))).trans (ak _ g 16 v16 (fun h => h rfl))).trans (ak _ g 17 v17 (fun h => h rfl)))
theorem yG (w : World) (g : Nat) (v0 v1 v2 v3 v4 v5 v6 v7 v8 v9 v10 v11 v12 v13 v14 v15 v16 v17 : Value) : (vM w g v0 v1 v2 v3 v4 v5 v6 v7 v8 v9 v10 v11 v12 v13 v14 v15 v16 v17).heap.size = w.heap.size := by
 unfold vM
 simp
theorem Et {w : World} {g : Nat} {E : TypeId} {c0 c1 c2 c3 c4 c5 c6 c7 c8 c9 c10 c11 c12 c13 c14 c15 c16 c17 : Value} (h : w.heap[g]? = some (.cells #[c0, c1, c2, c3, c4, c5, c6, c7, c8, c9, c10, c11, c12, c13, c14, c15, c16, c17] E (0, 0))) (v0 v1 v2 v3 v4 v5 v6 v7 v8 v9 v10 v11 v12 v13 v14 v15 v16 v17 : Value) : (vM w g v0 v1 v2 v3 v4 v5 v6 v7 v8 v9 v10 v11 v12 v13 v14 v15 v16 v17).heap[g]? = some (.cells #[v0, v1, v2, v3, v4, v5, v6, v7, v8, v9, v10, v11, v12, v13, v14, v15, v16, v17] E (0, 0)) := by
 have h0 : (w.setCell ⟨g, 0, none⟩ v0).heap[g]? = some (.cells #[v0, c1, c2, c3, c4, c5, c6, c7, c8, c9, c10, c11, c12, c13, c14, c15, c16, c17] E (0, 0)) := ae (j := 0) v0 h
 have h1 : ((w.setCell ⟨g, 0, none⟩ v0).setCell ⟨g, 1, none⟩ v1).heap[g]? = some (.cells #[v0, v1, c2, c3, c4, c5, c6, c7, c8, c9, c10, c11, c12, c13, c14, c15, c16, c17] E (0, 0)) := ae (j := 1) v1 h0
 have h2 : (((w.setCell ⟨g, 0, none⟩ v0).setCell ⟨g, 1, none⟩ v1).setCell ⟨g, 2, none⟩ v2).heap[g]? = some (.cells #[v0, v1, v2, c3, c4, c5, c6, c7, c8, c9, c10, c11, c12, c13, c14, c15, c16, c17] E (0, 0)) := ae (j := 2) v2 h1
 have h3 : ((((w.setCell ⟨g, 0, none⟩ v0).setCell ⟨g, 1, none⟩ v1).setCell ⟨g, 2, none⟩ v2).setCell ⟨g, 3, none⟩ v3).heap[g]? = some (.cells #[v0, v1, v2, v3, c4, c5, c6, c7, c8, c9, c10, c11, c12, c13, c14, c15, c16, c17] E (0, 0)) := ae (j := 3) v3 h2
 have h4 : (((((w.setCell ⟨g, 0, none⟩ v0).setCell ⟨g, 1, none⟩ v1).setCell ⟨g, 2, none⟩ v2).setCell ⟨g, 3, none⟩ v3).setCell ⟨g, 4, none⟩ v4).heap[g]? = some (.cells #[v0, v1, v2, v3, v4, c5, c6, c7, c8, c9, c10, c11, c12, c13, c14, c15, c16, c17] E (0, 0)) := ae (j := 4) v4 h3
 have h5 : ((((((w.setCell ⟨g, 0, none⟩ v0).setCell ⟨g, 1, none⟩ v1).setCell ⟨g, 2, none⟩ v2).setCell ⟨g, 3, none⟩ v3).setCell ⟨g, 4, none⟩ v4).setCell ⟨g, 5, none⟩ v5).heap[g]? = some (.cells #[v0, v1, v2, v3, v4, v5, c6, c7, c8, c9, c10, c11, c12, c13, c14, c15, c16, c17] E (0, 0)) := ae (j := 5) v5 h4
 have h6 : (((((((w.setCell ⟨g, 0, none⟩ v0).setCell ⟨g, 1, none⟩ v1).setCell ⟨g, 2, none⟩ v2).setCell ⟨g, 3, none⟩ v3).setCell ⟨g, 4, none⟩ v4).setCell ⟨g, 5, none⟩ v5).setCell ⟨g, 6, none⟩ v6).heap[g]? = some (.cells #[v0, v1, v2, v3, v4, v5, v6, c7, c8, c9, c10, c11, c12, c13, c14, c15, c16, c17] E (0, 0)) := ae (j := 6) v6 h5
 have h7 : ((((((((w.setCell ⟨g, 0, none⟩ v0).setCell ⟨g, 1, none⟩ v1).setCell ⟨g, 2, none⟩ v2).setCell ⟨g, 3, none⟩ v3).setCell ⟨g, 4, none⟩ v4).setCell ⟨g, 5, none⟩ v5).setCell ⟨g, 6, none⟩ v6).setCell ⟨g, 7, none⟩ v7).heap[g]? = some (.cells #[v0, v1, v2, v3, v4, v5, v6, v7, c8, c9, c10, c11, c12, c13, c14, c15, c16, c17] E (0, 0)) := ae (j := 7) v7 h6
 have h8 : (((((((((w.setCell ⟨g, 0, none⟩ v0).setCell ⟨g, 1, none⟩ v1).setCell ⟨g, 2, none⟩ v2).setCell ⟨g, 3, none⟩ v3).setCell ⟨g, 4, none⟩ v4).setCell ⟨g, 5, none⟩ v5).setCell ⟨g, 6, none⟩ v6).setCell ⟨g, 7, none⟩ v7).setCell ⟨g, 8, none⟩ v8).heap[g]? = some (.cells #[v0, v1, v2, v3, v4, v5, v6, v7, v8, c9, c10, c11, c12, c13, c14, c15, c16, c17] E (0, 0)) := ae (j := 8) v8 h7
 have h9 : ((((((((((w.setCell ⟨g, 0, none⟩ v0).setCell ⟨g, 1, none⟩ v1).setCell ⟨g, 2, none⟩ v2).setCell ⟨g, 3, none⟩ v3).setCell ⟨g, 4, none⟩ v4).setCell ⟨g, 5, none⟩ v5).setCell ⟨g, 6, none⟩ v6).setCell ⟨g, 7, none⟩ v7).setCell ⟨g, 8, none⟩ v8).setCell ⟨g, 9, none⟩ v9).heap[g]? = some (.cells #[v0, v1, v2, v3, v4, v5, v6, v7, v8, v9, c10, c11, c12, c13, c14, c15, c16, c17] E (0, 0)) := ae (j := 9) v9 h8
 have wQ : (((((((((((w.setCell ⟨g, 0, none⟩ v0).setCell ⟨g, 1, none⟩ v1).setCell ⟨g, 2, none⟩ v2).setCell ⟨g, 3, none⟩ v3).setCell ⟨g, 4, none⟩ v4).setCell ⟨g, 5, none⟩ v5).setCell ⟨g, 6, none⟩ v6).setCell ⟨g, 7, none⟩ v7).setCell ⟨g, 8, none⟩ v8).setCell ⟨g, 9, none⟩ v9).setCell ⟨g, 10, none⟩ v10).heap[g]? = some (.cells #[v0, v1, v2, v3, v4, v5, v6, v7, v8, v9, v10, c11, c12, c13, c14, c15, c16, c17] E (0, 0)) := ae (j := 10) v10 h9
 have Md : ((((((((((((w.setCell ⟨g, 0, none⟩ v0).setCell ⟨g, 1, none⟩ v1).setCell ⟨g, 2, none⟩ v2).setCell ⟨g, 3, none⟩ v3).setCell ⟨g, 4, none⟩ v4).setCell ⟨g, 5, none⟩ v5).setCell ⟨g, 6, none⟩ v6).setCell ⟨g, 7, none⟩ v7).setCell ⟨g, 8, none⟩ v8).setCell ⟨g, 9, none⟩ v9).setCell ⟨g, 10, none⟩ v10).setCell ⟨g, 11, none⟩ v11).heap[g]? = some (.cells #[v0, v1, v2, v3, v4, v5, v6, v7, v8, v9, v10, v11, c12, c13, c14, c15, c16, c17] E (0, 0)) := ae (j := 11) v11 wQ
 have MC : (((((((((((((w.setCell ⟨g, 0, none⟩ v0).setCell ⟨g, 1, none⟩ v1).setCell ⟨g, 2, none⟩ v2).setCell ⟨g, 3, none⟩ v3).setCell ⟨g, 4, none⟩ v4).setCell ⟨g, 5, none⟩ v5).setCell ⟨g, 6, none⟩ v6).setCell ⟨g, 7, none⟩ v7).setCell ⟨g, 8, none⟩ v8).setCell ⟨g, 9, none⟩ v9).setCell ⟨g, 10, none⟩ v10).setCell ⟨g, 11, none⟩ v11).setCell ⟨g, 12, none⟩ v12).heap[g]? = some (.cells #[v0, v1, v2, v3, v4, v5, v6, v7, v8, v9, v10, v11, v12, c13, c14, c15, c16, c17] E (0, 0)) := ae (j := 12) v12 Md
 have Un : ((((((((((((((w.setCell ⟨g, 0, none⟩ v0).setCell ⟨g, 1, none⟩ v1).setCell ⟨g, 2, none⟩ v2).setCell ⟨g, 3, none⟩ v3).setCell ⟨g, 4, none⟩ v4).setCell ⟨g, 5, none⟩ v5).setCell ⟨g, 6, none⟩ v6).setCell ⟨g, 7, none⟩ v7).setCell ⟨g, 8, none⟩ v8).setCell ⟨g, 9, none⟩ v9).setCell ⟨g, 10, none⟩ v10).setCell ⟨g, 11, none⟩ v11).setCell ⟨g, 12, none⟩ v12).setCell ⟨g, 13, none⟩ v13).heap[g]? = some (.cells #[v0, v1, v2, v3, v4, v5, v6, v7, v8, v9, v10, v11, v12, v13, c14, c15, c16, c17] E (0, 0)) := ae (j := 13) v13 MC
 have Nn : (((((((((((((((w.setCell ⟨g, 0, none⟩ v0).setCell ⟨g, 1, none⟩ v1).setCell ⟨g, 2, none⟩ v2).setCell ⟨g, 3, none⟩ v3).setCell ⟨g, 4, none⟩ v4).setCell ⟨g, 5, none⟩ v5).setCell ⟨g, 6, none⟩ v6).setCell ⟨g, 7, none⟩ v7).setCell ⟨g, 8, none⟩ v8).setCell ⟨g, 9, none⟩ v9).setCell ⟨g, 10, none⟩ v10).setCell ⟨g, 11, none⟩ v11).setCell ⟨g, 12, none⟩ v12).setCell ⟨g, 13, none⟩ v13).setCell ⟨g, 14, none⟩ v14).heap[g]? = some (.cells #[v0, v1, v2, v3, v4, v5, v6, v7, v8, v9, v10, v11, v12, v13, v14, c15, c16, c17] E (0, 0)) := ae (j := 14) v14 Un
 have Tk : ((((((((((((((((w.setCell ⟨g, 0, none⟩ v0).setCell ⟨g, 1, none⟩ v1).setCell ⟨g, 2, none⟩ v2).setCell ⟨g, 3, none⟩ v3).setCell ⟨g, 4, none⟩ v4).setCell ⟨g, 5, none⟩ v5).setCell ⟨g, 6, none⟩ v6).setCell ⟨g, 7, none⟩ v7).setCell ⟨g, 8, none⟩ v8).setCell ⟨g, 9, none⟩ v9).setCell ⟨g, 10, none⟩ v10).setCell ⟨g, 11, none⟩ v11).setCell ⟨g, 12, none⟩ v12).setCell ⟨g, 13, none⟩ v13).setCell ⟨g, 14, none⟩ v14).setCell ⟨g, 15, none⟩ v15).heap[g]? = some (.cells #[v0, v1, v2, v3, v4, v5, v6, v7, v8, v9, v10, v11, v12, v13, v14, v15, c16, c17] E (0, 0)) := ae (j := 15) v15 Nn
 have SI : (((((((((((((((((w.setCell ⟨g, 0, none⟩ v0).setCell ⟨g, 1, none⟩ v1).setCell ⟨g, 2, none⟩ v2).setCell ⟨g, 3, none⟩ v3).setCell ⟨g, 4, none⟩ v4).setCell ⟨g, 5, none⟩ v5).setCell ⟨g, 6, none⟩ v6).setCell ⟨g, 7, none⟩ v7).setCell ⟨g, 8, none⟩ v8).setCell ⟨g, 9, none⟩ v9).setCell ⟨g, 10, none⟩ v10).setCell ⟨g, 11, none⟩ v11).setCell ⟨g, 12, none⟩ v12).setCell ⟨g, 13, none⟩ v13).setCell ⟨g, 14, none⟩ v14).setCell ⟨g, 15, none⟩ v15).setCell ⟨g, 16, none⟩ v16).heap[g]? = some (.cells #[v0, v1, v2, v3, v4, v5, v6, v7, v8, v9, v10, v11, v12, v13, v14, v15, v16, c17] E (0, 0)) := ae (j := 16) v16 Tk
 have ST : ((((((((((((((((((w.setCell ⟨g, 0, none⟩ v0).setCell ⟨g, 1, none⟩ v1).setCell ⟨g, 2, none⟩ v2).setCell ⟨g, 3, none⟩ v3).setCell ⟨g, 4, none⟩ v4).setCell ⟨g, 5, none⟩ v5).setCell ⟨g, 6, none⟩ v6).setCell ⟨g, 7, none⟩ v7).setCell ⟨g, 8, none⟩ v8).setCell ⟨g, 9, none⟩ v9).setCell ⟨g, 10, none⟩ v10).setCell ⟨g, 11, none⟩ v11).setCell ⟨g, 12, none⟩ v12).setCell ⟨g, 13, none⟩ v13).setCell ⟨g, 14, none⟩ v14).setCell ⟨g, 15, none⟩ v15).setCell ⟨g, 16, none⟩ v16).setCell ⟨g, 17, none⟩ v17).heap[g]? = some (.cells #[v0, v1, v2, v3, v4, v5, v6, v7, v8, v9, v10, v11, v12, v13, v14, v15, v16, v17] E (0, 0)) := ae (j := 17) v17 SI
 exact ST
theorem JP {w : World} {g : Nat} {E : TypeId} {c0 c1 c2 c3 c4 c5 c6 c7 c8 c9 c10 c11 c12 c13 c14 c15 c16 c17 : Value} (h : w.heap[g]? = some (.cells #[c0, c1, c2, c3, c4, c5, c6, c7, c8, c9, c10, c11, c12, c13, c14, c15, c16, c17] E (0, 0))) : (w.cell? ⟨g, 0, none⟩ = some c0 /\ w.cell? ⟨g, 1, none⟩ = some c1 /\ w.cell? ⟨g, 2, none⟩ = some c2 /\ w.cell? ⟨g, 3, none⟩ = some c3 /\ w.cell? ⟨g, 4, none⟩ = some c4 /\ w.cell? ⟨g, 5, none⟩ = some c5 /\ w.cell? ⟨g, 6, none⟩ = some c6 /\ w.cell? ⟨g, 7, none⟩ = some c7 /\ w.cell? ⟨g, 8, none⟩ = some c8 /\ w.cell? ⟨g, 9, none⟩ = some c9 /\ w.cell? ⟨g, 10, none⟩ = some c10 /\ w.cell? ⟨g, 11, none⟩ = some c11 /\ w.cell? ⟨g, 12, none⟩ = some c12 /\ w.cell? ⟨g, 13, none⟩ = some c13 /\ w.cell? ⟨g, 14, none⟩ = some c14 /\ w.cell? ⟨g, 15, none⟩ = some c15 /\ w.cell? ⟨g, 16, none⟩ = some c16 /\ w.cell? ⟨g, 17, none⟩ = some c17) /\ (w.frozen? ⟨g, 0, none⟩ = false /\ w.frozen? ⟨g, 1, none⟩ = false /\ w.frozen? ⟨g, 2, none⟩ = false /\ w.frozen? ⟨g, 3, none⟩ = false /\ w.frozen? ⟨g, 4, none⟩ = false /\ w.frozen? ⟨g, 5, none⟩ = false /\ w.frozen? ⟨g, 6, none⟩ = false /\ w.frozen? ⟨g, 7, none⟩ = false /\ w.frozen? ⟨g, 8, none⟩ = false /\ w.frozen? ⟨g, 9, none⟩ = false /\ w.frozen? ⟨g, 10, none⟩ = false /\ w.frozen? ⟨g, 11, none⟩ = false /\ w.frozen? ⟨g, 12, none⟩ = false /\ w.frozen? ⟨g, 13, none⟩ = false /\ w.frozen? ⟨g, 14, none⟩ = false /\ w.frozen? ⟨g, 15, none⟩ = false /\ w.frozen? ⟨g, 16, none⟩ = false /\ w.frozen? ⟨g, 17, none⟩ = false) :=
 ⟨⟨cell_of h 0, cell_of h 1, cell_of h 2, cell_of h 3, cell_of h 4, cell_of h 5, cell_of h 6, cell_of h 7, cell_of h 8, cell_of h 9, cell_of h 10, cell_of h 11, cell_of h 12, cell_of h 13, cell_of h 14, cell_of h 15, cell_of h 16, cell_of h 17⟩, aj h 0, aj h 1, aj h 2, aj h 3, aj h 4, aj h 5, aj h 6, aj h 7, aj h 8, aj h 9, aj h 10, aj h 11, aj h 12, aj h 13, aj h 14, aj h 15, aj h 16, aj h 17⟩
theorem AQ {G H : World -> Int -> ByteArray -> Int -> Option Addr -> Nat -> Nat -> Option Addr -> Nat -> Nat -> Option Addr -> Nat -> Nat -> Prop} {R : Prop} (leaf : ∀ w a0 a1 a2 a3 a4 a5 a6 a7 a8 a9 a10 a11, H w a0 a1 a2 a3 a4 a5 a6 a7 a8 a9 a10 a11 -> G w a0 a1 a2 a3 a4 a5 a6 a7 a8 a9 a10 a11) (main : (∀ w a0 a1 a2 a3 a4 a5 a6 a7 a8 a9 a10 a11, H w a0 a1 a2 a3 a4 a5 a6 a7 a8 a9 a10 a11 -> G w a0 a1 a2 a3 a4 a5 a6 a7 a8 a9 a10 a11) -> R) : R := main leaf
section
variable {b g d : Nat} {w : World} {ts : List TokZ}
def Pr (s0 : Nat) (t : Tr) (cs : List Value) (w' : World) (h : Nat) : Prop := ∃ x y z ca cb cc u v, t = JA x y z /\ cs = ca ++ (cb ++ cc) /\ Fx ca /\ Fx cb /\ Fx cc /\ s0 <= u /\ u <= v /\ v <= w'.heap.size /\ TreeT w' s0 u h 0 x ca /\ TreeT w' u v h 0 y cb /\ TreeT w' v w'.heap.size h 0 z cc
theorem AM {ex : bF} {n : Nat} (h : Ir b g w d ts) (hn : ts.length <= n) (hE : CI b g d n ex) (hX : bC ex) : Calls Tryz.prog 213 #[.pointer (some ⟨b, 0, none⟩)] w (Ae b g d w ts (mW ex ts) (Pr (w.heap.size + 1))) := by
 have au := h.lt
 have ec := h.glt
 have HE := aa hE
 have HD := aa hX
 have dr := aa h.ends
 have aq : Hid (Below w.heap.size w (w.alloc (.cells #[.int .i64 0, .string ⟨#[]⟩, .int .i64 0, .slice none 0 0, .slice none 0 0, .slice none 0 0, .int .i64 0, .string ⟨#[]⟩, .int .i64 0, .slice none 0 0, .slice none 0 0, .slice none 0 0, .int .i64 0, .string ⟨#[]⟩, .int .i64 0, .slice none 0 0, .slice none 0 0, .slice none 0 0] 208))) := (U4 w).alloc U0 _
 have H0 := aa (h.below aq.out)
 have HX : Hid ((w.alloc (.cells #[.int .i64 0, .string ⟨#[]⟩, .int .i64 0, .slice none 0 0, .slice none 0 0, .slice none 0 0, .int .i64 0, .string ⟨#[]⟩, .int .i64 0, .slice none 0 0, .slice none 0 0, .slice none 0 0, .int .i64 0, .string ⟨#[]⟩, .int .i64 0, .slice none 0 0, .slice none 0 0, .slice none 0 0] 208)).heap[w.heap.size]? = some (.cells #[.int .i64 0, .string ⟨#[]⟩, .int .i64 0, .slice none 0 0, .slice none 0 0, .slice none 0 0, .int .i64 0, .string ⟨#[]⟩, .int .i64 0, .slice none 0 0, .slice none 0 0, .slice none 0 0, .int .i64 0, .string ⟨#[]⟩, .int .i64 0, .slice none 0 0, .slice none 0 0, .slice none 0 0] 208 (0, 0))) := heap_alloc_new w _
 clear h hE hX
 go_enter Tryz.func213, Tryz.ntmps213
 go_wp2_with fail
 refine (HE.out _ ts H0.out hn).mono ?_
 rintro e w1 ⟨m1, ⟨t1, q1, cs, h1, lq, rfl, hFx, hI1, hh1, Fy⟩ | ⟨lq, rfl⟩⟩
 ·have H1 := aa hI1
  have M1 := aa ((Mv.of aq.out).trans m1)
  have X1 := aa (af HX.out m1 (by omega))
  have jX := aa lq
  have T1 := aa Fy
  have nZ := ad X1.out
  have fB := (HD.out ts t1 q1 dr.out lq).2
  have gB := aa hFx
  obtain ⟨ai0, ai1, ai2, aj1, ak1, al1, aj2, ak2, al2, aj3, ak3, al3, rfl⟩ := hFx
  have B1 : Hid (Below w1.heap.size w1 (w1.alloc (.cells #[.int .i64 ai0, .string ai1, .int .i64 ai2, .slice aj1 ak1 al1, .slice aj2 ak2 al2, .slice aj3 ak3 al3] 34))) := (U4 w1).alloc U0 _
  have KM := aa (H1.out.below B1.out)
  have FB := aa (M1.out.trans (Mv.of (b := b) B1.out))
  have Ix := aa (af X1.out (Mv.of (b := b) B1.out) (by omega))
  have Y1 : Hid ((w1.alloc (.cells #[.int .i64 ai0, .string ai1, .int .i64 ai2, .slice aj1 ak1 al1, .slice aj2 ak2 al2, .slice aj3 ak3 al3] 34)).heap[w1.heap.size]? = some (.cells #[.int .i64 ai0, .string ai1, .int .i64 ai2, .slice aj1 ak1 al1, .slice aj2 ak2 al2, .slice aj3 ak3 al3] 34 (0, 0))) := heap_alloc_new w1 _
  have OG := ad Ix.out
  have O0 := ad Y1.out
  have IC := H1.out.lt
  clear hI1 m1 lq Fy
  go_wp2_with fail
  refine (cN di (by decide) (by decide) KM.out).mono ?_
  rintro e w2 ⟨⟨q2, fH, rfl, h2⟩ | ⟨fH, rfl⟩, m2⟩
  ·have H2 := aa h2
   have M2 := aa (FB.out.trans m2)
   have X2 := aa (af Ix.out m2 (by omega))
   have qk := aa fH
   have EH := aa ((Mv.of (b := b) B1.out).trans m2)
   have Y2 := aa (af Y1.out m2 (by omega))
   have iT := aQ fH
   have iM := EH.out.size
   have mY := ad X2.out
   have wI := ad Y2.out
   have IX := H2.out.lt
   clear h2 m2 fH
   go_wp2_with fail
   refine (HE.out _ q2 H2.out (by omega)).mono ?_
   rintro e w3 ⟨m3, ⟨t3, q3, cs, h3, th, rfl, hFx, hI3, hh3, Jv⟩ | ⟨th, rfl⟩⟩
   ·have H3 := aa hI3
    have M3 := aa (M2.out.trans m3)
    have iU := aa (EH.out.trans m3)
    have X3 := aa (af X2.out m3 (by omega))
    have Y3 := aa (af Y2.out m3 (by omega))
    have Hf := aa th
    have T3 := aa Jv
    have gy := m3.size
    have Jf := (HD.out q2 t3 q3 H2.out.ends th).2
    have Tq := aa hFx
    obtain ⟨bi0, bi1, bi2, bj1, bk1, bl1, bj2, bk2, bl2, bj3, bk3, bl3, rfl⟩ := hFx
    have B3 : Hid (Below w3.heap.size w3 (w3.alloc (.cells #[.int .i64 bi0, .string bi1, .int .i64 bi2, .slice bj1 bk1 bl1, .slice bj2 bk2 bl2, .slice bj3 bk3 bl3] 34))) := (U4 w3).alloc U0 _
    have NY := ad X3.out
    have My := ad Y3.out
    have Sm := aa (H3.out.below B3.out)
    have QR := aa (M3.out.trans (Mv.of (b := b) B3.out))
    have NW := aa (iU.out.trans (Mv.of (b := b) B3.out))
    have PL := aa (af X3.out (Mv.of (b := b) B3.out) (by omega))
    have Qg := aa (af Y3.out (Mv.of (b := b) B3.out) (by omega))
    have V3 : Hid ((w3.alloc (.cells #[.int .i64 bi0, .string bi1, .int .i64 bi2, .slice bj1 bk1 bl1, .slice bj2 bk2 bl2, .slice bj3 bk3 bl3] 34)).heap[w3.heap.size]? = some (.cells #[.int .i64 bi0, .string bi1, .int .i64 bi2, .slice bj1 bk1 bl1, .slice bj2 bk2 bl2, .slice bj3 bk3 bl3] 34 (0, 0))) := heap_alloc_new w3 _
    have TJ := ad PL.out
    have TT := ad Qg.out
    have TZ := ad V3.out
    have TC := H3.out.lt
    clear hI3 m3 th Jv
    go_wp2_with fail
    refine (cN dJ (by decide) (by decide) Sm.out).mono ?_
    rintro e w4 ⟨⟨q4, l0, rfl, h4⟩ | ⟨l0, rfl⟩, m4⟩
    ·have H4 := aa h4
     have M4 := aa (QR.out.trans m4)
     have Sv := aa (NW.out.trans m4)
     have oJ := aa ((Mv.of (b := b) B3.out).trans m4)
     have X4 := aa (af PL.out m4 (by omega))
     have Y4 := aa (af Qg.out m4 (by omega))
     have V4 := aa (af V3.out m4 (by omega))
     have xL := aa l0
     have Tb := aQ l0
     have qc := oJ.out.size
     have CW := ad X4.out
     have PW := ad Y4.out
     have UV := ad V4.out
     clear h4 m4 l0
     have QI := aa (H4.out.below (U4 w4).drew)
     have Jb := aa (M4.out.trans (Mv.drew b w4))
     have Pm := aa (Sv.out.trans (Mv.drew b w4))
     have Oa := aa (oJ.out.trans (Mv.drew b w4))
     have PG := aa (af X4.out (Mv.drew b w4) (by omega))
     have IQ := aa (af Y4.out (Mv.drew b w4) (by omega))
     have Ii := aa (af V4.out (Mv.drew b w4) (by omega))
     have y4 := IQ.out
     obtain ⟨⟨ya0, ya1, ya2, ya3, ya4, ya5⟩, -⟩ := aG y4
     have v4 := Ii.out
     obtain ⟨⟨va0, va1, va2, va3, va4, va5⟩, -⟩ := aG v4
     have Sd := ad PG.out
     have R5 := ad IQ.out
     have SW := ad Ii.out
     have Om := QI.out.lt
     have Sa : w4.drew.heap.size = w4.heap.size := rfl
     have n6 := aa (HE.out _ q4 QI.out (by omega))
     clear y4 v4
     go_upto_region 5 with fail
     refine wp_region_any (by kernel_rfl) ?_
     try (change wpAny _ _ _ _ _ _ _ (World.drew _))
     refine wpAny_take (i := 2) (v := .pointer (some ⟨b, 0, none⟩)) rfl (by kernel_rfl) (by kernel_rfl) (by kernel_rfl) (fun _ _ _ h => h) (Or.inl ⟨by rfl, fun w => by go_simp⟩) ?_
     refine' AQ (H := fun (w5 : World) (ci0 : Int) (ci1 : ByteArray) (ci2 : Int) (cj1 : Option Addr) (ck1 cl1 : Nat) (cj2 : Option Addr) (ck2 cl2 : Nat) (cj3 : Option Addr) (ck3 cl3 : Nat) => ∃ t5 q5 h5, ex q4 = some (t5, q5) /\ Ir b g w5 d q5 /\ h5 + q5.length <= q4.length /\ TreeT w5 w4.drew.heap.size w5.heap.size h5 0 t5 [.int .i64 ci0, .string ci1, .int .i64 ci2, .slice cj1 ck1 cl1, .slice cj2 ck2 cl2, .slice cj3 ck3 cl3] /\ Mv b w4.drew w5) ?leaf ?main
     case main =>
      intro LEAF
      refine wpAny_ready (rs := [0, 1, 3]) (by kernel_rfl) (by simp) ?_
      refine (AllReady.cons rfl (fun K hK => ?_) (AllReady.cons rfl (fun K hK => ?_) (AllReady.cons rfl (fun K hK => ?_) AllReady.nil)))
      ·go_simp
       refine hK _ _ ?_
       clear hK K
       refine wpAny_ready (rs := [1, 3]) (by kernel_rfl) (by simp) ?_
       refine (AllReady.cons rfl (fun K hK => ?_) (AllReady.cons rfl (fun K hK => ?_) AllReady.nil))
       ·go_simp
        refine hK _ _ ?_
        clear hK K
        refine wpAny_ready (rs := [3]) (by kernel_rfl) (by simp) ?_
        refine (AllReady.cons rfl (fun K hK => ?_) AllReady.nil)
        ·go_simp
         (with_reducible refine Calls.mono n6.out ?_)
         rintro e w5 ⟨m5, ⟨t5, q5, cs, h5, lw, rfl, hFx, hI5, hh5, hT5⟩ | ⟨lw, rfl⟩⟩
         ·refine hK _ _ ?_
          clear hK K
          have H5 := aa hI5
          have DA := aa m5
          have Y5 := aa (af IQ.out m5 (by omega))
          have V5 := aa (af Ii.out m5 (by omega))
          have T5 := aa hT5
          have zx := aa lw
          obtain ⟨ci0, ci1, ci2, cj1, ck1, cl1, cj2, ck2, cl2, cj3, ck3, cl3, rfl⟩ := hFx
          clear hI5 m5 lw hT5
          have y5 := Y5.out
          obtain ⟨⟨yb0, yb1, yb2, yb3, yb4, yb5⟩, -⟩ := aG y5
          have v5 := V5.out
          obtain ⟨⟨vb0, vb1, vb2, vb3, vb4, vb5⟩, -⟩ := aG v5
          clear y5 v5
          exact LEAF w5 ci0 ci1 ci2 cj1 ck1 cl1 cj2 ck2 cl2 cj3 ck3 cl3 ⟨t5, q5, h5, zx.out, H5.out, hh5, T5.out, DA.out⟩
         ·have M5 := aa (Jb.out.trans m5)
          have HO : Hid (mW ex ts = none) := by
           unfold mW
           rw [jX.out]
           show (ar di q1).bind _ = _
           rw [qk.out]
           show (ex q2).bind _ = _
           rw [Hf.out]
           show (ar dJ q3).bind _ = _
           rw [xL.out]
           show (ex q4).bind _ = _
           rw [lw]
           exact rfl
          exact ⟨rfl, M5.out, .inr ⟨HO.out, rfl⟩⟩
       ·go_simp
        (with_reducible refine Calls.mono n6.out ?_)
        rintro e w5 ⟨m5, ⟨t5, q5, cs, h5, lw, rfl, hFx, hI5, hh5, hT5⟩ | ⟨lw, rfl⟩⟩
        ·refine hK _ _ ?_
         clear hK K
         have H5 := aa hI5
         have DA := aa m5
         have Y5 := aa (af IQ.out m5 (by omega))
         have V5 := aa (af Ii.out m5 (by omega))
         have T5 := aa hT5
         have zx := aa lw
         obtain ⟨ci0, ci1, ci2, cj1, ck1, cl1, cj2, ck2, cl2, cj3, ck3, cl3, rfl⟩ := hFx
         clear hI5 m5 lw hT5
         have y5 := Y5.out
         obtain ⟨⟨yb0, yb1, yb2, yb3, yb4, yb5⟩, -⟩ := aG y5
         have v5 := V5.out
         obtain ⟨⟨vb0, vb1, vb2, vb3, vb4, vb5⟩, -⟩ := aG v5
         clear y5 v5
         refine wpAny_ready (rs := [1]) (by kernel_rfl) (by simp) ?_
         refine (AllReady.cons rfl (fun K hK => ?_) AllReady.nil)
         ·go_simp
          refine hK _ _ ?_
          clear hK K
          exact LEAF w5 ci0 ci1 ci2 cj1 ck1 cl1 cj2 ck2 cl2 cj3 ck3 cl3 ⟨t5, q5, h5, zx.out, H5.out, hh5, T5.out, DA.out⟩
        ·have M5 := aa (Jb.out.trans m5)
         have HO : Hid (mW ex ts = none) := by
          unfold mW
          rw [jX.out]
          show (ar di q1).bind _ = _
          rw [qk.out]
          show (ex q2).bind _ = _
          rw [Hf.out]
          show (ar dJ q3).bind _ = _
          rw [xL.out]
          show (ex q4).bind _ = _
          rw [lw]
          exact rfl
         exact ⟨rfl, M5.out, .inr ⟨HO.out, rfl⟩⟩
      ·go_simp
       refine hK _ _ ?_
       clear hK K
       refine wpAny_ready (rs := [0, 3]) (by kernel_rfl) (by simp) ?_
       refine (AllReady.cons rfl (fun K hK => ?_) (AllReady.cons rfl (fun K hK => ?_) AllReady.nil))
       ·go_simp
        refine hK _ _ ?_
        clear hK K
        refine wpAny_ready (rs := [3]) (by kernel_rfl) (by simp) ?_
        refine (AllReady.cons rfl (fun K hK => ?_) AllReady.nil)
        ·go_simp
         (with_reducible refine Calls.mono n6.out ?_)
         rintro e w5 ⟨m5, ⟨t5, q5, cs, h5, lw, rfl, hFx, hI5, hh5, hT5⟩ | ⟨lw, rfl⟩⟩
         ·refine hK _ _ ?_
          clear hK K
          have H5 := aa hI5
          have DA := aa m5
          have Y5 := aa (af IQ.out m5 (by omega))
          have V5 := aa (af Ii.out m5 (by omega))
          have T5 := aa hT5
          have zx := aa lw
          obtain ⟨ci0, ci1, ci2, cj1, ck1, cl1, cj2, ck2, cl2, cj3, ck3, cl3, rfl⟩ := hFx
          clear hI5 m5 lw hT5
          have y5 := Y5.out
          obtain ⟨⟨yb0, yb1, yb2, yb3, yb4, yb5⟩, -⟩ := aG y5
          have v5 := V5.out
          obtain ⟨⟨vb0, vb1, vb2, vb3, vb4, vb5⟩, -⟩ := aG v5
          clear y5 v5
          exact LEAF w5 ci0 ci1 ci2 cj1 ck1 cl1 cj2 ck2 cl2 cj3 ck3 cl3 ⟨t5, q5, h5, zx.out, H5.out, hh5, T5.out, DA.out⟩
         ·have M5 := aa (Jb.out.trans m5)
          have HO : Hid (mW ex ts = none) := by
           unfold mW
           rw [jX.out]
           show (ar di q1).bind _ = _
           rw [qk.out]
           show (ex q2).bind _ = _
           rw [Hf.out]
           show (ar dJ q3).bind _ = _
           rw [xL.out]
           show (ex q4).bind _ = _
           rw [lw]
           exact rfl
          exact ⟨rfl, M5.out, .inr ⟨HO.out, rfl⟩⟩
       ·go_simp
        (with_reducible refine Calls.mono n6.out ?_)
        rintro e w5 ⟨m5, ⟨t5, q5, cs, h5, lw, rfl, hFx, hI5, hh5, hT5⟩ | ⟨lw, rfl⟩⟩
        ·refine hK _ _ ?_
         clear hK K
         have H5 := aa hI5
         have DA := aa m5
         have Y5 := aa (af IQ.out m5 (by omega))
         have V5 := aa (af Ii.out m5 (by omega))
         have T5 := aa hT5
         have zx := aa lw
         obtain ⟨ci0, ci1, ci2, cj1, ck1, cl1, cj2, ck2, cl2, cj3, ck3, cl3, rfl⟩ := hFx
         clear hI5 m5 lw hT5
         have y5 := Y5.out
         obtain ⟨⟨yb0, yb1, yb2, yb3, yb4, yb5⟩, -⟩ := aG y5
         have v5 := V5.out
         obtain ⟨⟨vb0, vb1, vb2, vb3, vb4, vb5⟩, -⟩ := aG v5
         clear y5 v5
         refine wpAny_ready (rs := [0]) (by kernel_rfl) (by simp) ?_
         refine (AllReady.cons rfl (fun K hK => ?_) AllReady.nil)
         ·go_simp
          refine hK _ _ ?_
          clear hK K
          exact LEAF w5 ci0 ci1 ci2 cj1 ck1 cl1 cj2 ck2 cl2 cj3 ck3 cl3 ⟨t5, q5, h5, zx.out, H5.out, hh5, T5.out, DA.out⟩
        ·have M5 := aa (Jb.out.trans m5)
         have HO : Hid (mW ex ts = none) := by
          unfold mW
          rw [jX.out]
          show (ar di q1).bind _ = _
          rw [qk.out]
          show (ex q2).bind _ = _
          rw [Hf.out]
          show (ar dJ q3).bind _ = _
          rw [xL.out]
          show (ex q4).bind _ = _
          rw [lw]
          exact rfl
         exact ⟨rfl, M5.out, .inr ⟨HO.out, rfl⟩⟩
      ·go_simp
       (with_reducible refine Calls.mono n6.out ?_)
       rintro e w5 ⟨m5, ⟨t5, q5, cs, h5, lw, rfl, hFx, hI5, hh5, hT5⟩ | ⟨lw, rfl⟩⟩
       ·refine hK _ _ ?_
        clear hK K
        have H5 := aa hI5
        have DA := aa m5
        have Y5 := aa (af IQ.out m5 (by omega))
        have V5 := aa (af Ii.out m5 (by omega))
        have T5 := aa hT5
        have zx := aa lw
        obtain ⟨ci0, ci1, ci2, cj1, ck1, cl1, cj2, ck2, cl2, cj3, ck3, cl3, rfl⟩ := hFx
        clear hI5 m5 lw hT5
        have y5 := Y5.out
        obtain ⟨⟨yb0, yb1, yb2, yb3, yb4, yb5⟩, -⟩ := aG y5
        have v5 := V5.out
        obtain ⟨⟨vb0, vb1, vb2, vb3, vb4, vb5⟩, -⟩ := aG v5
        clear y5 v5
        refine wpAny_ready (rs := [0, 1]) (by kernel_rfl) (by simp) ?_
        refine (AllReady.cons rfl (fun K hK => ?_) (AllReady.cons rfl (fun K hK => ?_) AllReady.nil))
        ·go_simp
         refine hK _ _ ?_
         clear hK K
         refine wpAny_ready (rs := [1]) (by kernel_rfl) (by simp) ?_
         refine (AllReady.cons rfl (fun K hK => ?_) AllReady.nil)
         ·go_simp
          refine hK _ _ ?_
          clear hK K
          exact LEAF w5 ci0 ci1 ci2 cj1 ck1 cl1 cj2 ck2 cl2 cj3 ck3 cl3 ⟨t5, q5, h5, zx.out, H5.out, hh5, T5.out, DA.out⟩
        ·go_simp
         refine hK _ _ ?_
         clear hK K
         refine wpAny_ready (rs := [0]) (by kernel_rfl) (by simp) ?_
         refine (AllReady.cons rfl (fun K hK => ?_) AllReady.nil)
         ·go_simp
          refine hK _ _ ?_
          clear hK K
          exact LEAF w5 ci0 ci1 ci2 cj1 ck1 cl1 cj2 ck2 cl2 cj3 ck3 cl3 ⟨t5, q5, h5, zx.out, H5.out, hh5, T5.out, DA.out⟩
       ·have M5 := aa (Jb.out.trans m5)
        have HO : Hid (mW ex ts = none) := by
         unfold mW
         rw [jX.out]
         show (ar di q1).bind _ = _
         rw [qk.out]
         show (ex q2).bind _ = _
         rw [Hf.out]
         show (ar dJ q3).bind _ = _
         rw [xL.out]
         show (ex q4).bind _ = _
         rw [lw]
         exact rfl
        exact ⟨rfl, M5.out, .inr ⟨HO.out, rfl⟩⟩
     case leaf =>
      rintro w5 ci0 ci1 ci2 cj1 ck1 cl1 cj2 ck2 cl2 cj3 ck3 cl3 ⟨t5, q5, h5, lw, hI5, hh5, hT5, m5⟩
      have H5 := aa hI5
      have M5 := aa (Jb.out.trans m5)
      have mb := aa (Pm.out.trans m5)
      have KC := aa (Oa.out.trans m5)
      have X5 := aa (af PG.out m5 (by omega))
      have T5 := aa hT5
      have E2 := m5.size
      have HO : Hid (mW ex ts = some (JA t1 t3 t5, q5)) := by
       unfold mW
       rw [jX.out]
       show (ar di q1).bind _ = _
       rw [qk.out]
       show (ex q2).bind _ = _
       rw [Hf.out]
       show (ar dJ q3).bind _ = _
       rw [xL.out]
       show (ex q4).bind _ = _
       rw [lw]
       exact rfl
      have TE : Hid (Fx [.int .i64 ci0, .string ci1, .int .i64 ci2, .slice cj1 ck1 cl1, .slice cj2 ck2 cl2, .slice cj3 ck3 cl3]) := ⟨_, _, _, _, _, _, _, _, _, _, _, _, rfl⟩
      clear hI5 m5 lw hT5
      have Tj : Hid (Ae b g d w ts (mW ex ts) (Pr (w.heap.size + 1)) (.returned (.agg #[.int .i64 ai0, .string ai1, .int .i64 ai2, .slice aj1 ak1 al1, .slice aj2 ak2 al2, .slice aj3 ak3 al3, .int .i64 bi0, .string bi1, .int .i64 bi2, .slice bj1 bk1 bl1, .slice bj2 bk2 bl2, .slice bj3 bk3 bl3, .int .i64 ci0, .string ci1, .int .i64 ci2, .slice cj1 ck1 cl1, .slice cj2 ck2 cl2, .slice cj3 ck3 cl3])) (vM w5 w.heap.size (.int .i64 ai0) (.string ai1) (.int .i64 ai2) (.slice aj1 ak1 al1) (.slice aj2 ak2 al2) (.slice aj3 ak3 al3) (.int .i64 bi0) (.string bi1) (.int .i64 bi2) (.slice bj1 bk1 bl1) (.slice bj2 bk2 bl2) (.slice bj3 bk3 bl3) (.int .i64 ci0) (.string ci1) (.int .i64 ci2) (.slice cj1 ck1 cl1) (.slice cj2 ck2 cl2) (.slice cj3 ck3 cl3))) := by
       have hk := vJ w5 w.heap.size (.int .i64 ai0) (.string ai1) (.int .i64 ai2) (.slice aj1 ak1 al1) (.slice aj2 ak2 al2) (.slice aj3 ak3 al3) (.int .i64 bi0) (.string bi1) (.int .i64 bi2) (.slice bj1 bk1 bl1) (.slice bj2 bk2 bl2) (.slice bj3 bk3 bl3) (.int .i64 ci0) (.string ci1) (.int .i64 ci2) (.slice cj1 ck1 cl1) (.slice cj2 ck2 cl2) (.slice cj3 ck3 cl3)
       have cI := yG w5 w.heap.size (.int .i64 ai0) (.string ai1) (.int .i64 ai2) (.slice aj1 ak1 al1) (.slice aj2 ak2 al2) (.slice aj3 ak3 al3) (.int .i64 bi0) (.string bi1) (.int .i64 bi2) (.slice bj1 bk1 bl1) (.slice bj2 bk2 bl2) (.slice bj3 bk3 bl3) (.int .i64 ci0) (.string ci1) (.int .i64 ci2) (.slice cj1 ck1 cl1) (.slice cj2 ck2 cl2) (.slice cj3 ck3 cl3)
       have Ou : TreeT w5 (w.heap.size + 1) w1.heap.size h1 0 t1 [.int .i64 ai0, .string ai1, .int .i64 ai2, .slice aj1 ak1 al1, .slice aj2 ak2 al2, .slice aj3 ak3 al3] := by
        refine (T1.out.keep fun k a1 a2 => mb.out.block k ⟨a2, ?_⟩).up (by simp) U0 U0
        have : w.heap.size + 1 <= k := by simpa using a1
        omega
       have NQ : TreeT w5 w1.heap.size w3.heap.size h3 0 t3 [.int .i64 bi0, .string bi1, .int .i64 bi2, .slice bj1 bk1 bl1, .slice bj2 bk2 bl2, .slice bj3 bk3 bl3] :=
        (T3.out.keep fun k a1 a2 => KC.out.block k ⟨a2, by omega⟩).up (by omega) U0 U0
       generalize (vM w5 w.heap.size (.int .i64 ai0) (.string ai1) (.int .i64 ai2) (.slice aj1 ak1 al1) (.slice aj2 ak2 al2) (.slice aj3 ak3 al3) (.int .i64 bi0) (.string bi1) (.int .i64 bi2) (.slice bj1 bk1 bl1) (.slice bj2 bk2 bl2) (.slice bj3 bk3 bl3) (.int .i64 ci0) (.string ci1) (.int .i64 ci2) (.slice cj1 ck1 cl1) (.slice cj2 ck2 cl2) (.slice cj3 ck3 cl3)) = W9 at hk cI ⊢
       refine ⟨Keeps.mvo M5.out hk U0, .inl ⟨_, q5, [.int .i64 ai0, .string ai1, .int .i64 ai2, .slice aj1 ak1 al1, .slice aj2 ak2 al2, .slice aj3 ak3 al3] ++ ([.int .i64 bi0, .string bi1, .int .i64 bi2, .slice bj1 bk1 bl1, .slice bj2 bk2 bl2, .slice bj3 bk3 bl3] ++ [.int .i64 ci0, .string ci1, .int .i64 ci2, .slice cj1 ck1 cl1, .slice cj2 ck2 cl2, .slice cj3 ck3 cl3]), max h1 (max h3 h5), HO.out, rfl, H5.out.other hk (by omega) (by omega), by omega, t1, t3, t5, _, _, _, w1.heap.size, w3.heap.size, rfl, rfl, gB.out, Tq.out, TE.out, by omega, by omega, by omega, ?_, ?_, ?_⟩⟩
       ·exact (Ou.keep fun k a1 a2 => hk.block k (by show _ ≠ _; omega)).up U0 U0 (by omega)
       ·exact (NQ.keep fun k a1 a2 => hk.block k (by show _ ≠ _; omega)).up U0 U0 (by omega)
       ·exact (T5.out.keep fun k a1 a2 => hk.block k (by show _ ≠ _; omega)).up (by omega) (Nat.le_of_eq cI.symm) (by omega)
      have x5 := X5.out
      obtain ⟨⟨xa0, xa1, xa2, xa3, xa4, xa5, xa6, xa7, xa8, xa9, xa10, xa11, xa12, xa13, xa14, xa15, xa16, xa17⟩, fa0, fa1, fa2, fa3, fa4, fa5, fa6, fa7, fa8, fa9, fa10, fa11, fa12, fa13, fa14, fa15, fa16, fa17⟩ := JP x5
      have jm : w.heap.size < w5.heap.size := ad x5
      clear x5
      refine wpAny_ready (rs := [4]) (by kernel_rfl) (by simp) ?_
      refine AllReady.cons rfl (fun K hK => ?_) AllReady.nil
      go_simp
      refine hK _ _ ?_
      clear hK K
      refine wpAny_ready (rs := [5]) (by kernel_rfl) (by simp) ?_
      refine AllReady.cons rfl (fun K hK => ?_) AllReady.nil
      go_simp
      refine hK _ _ ?_
      clear hK K
      refine wpAny_done (by kernel_rfl) ?_ _
      go_wp2
      refine bodyPost_ret (v := .agg #[.int .i64 ai0, .string ai1, .int .i64 ai2, .slice aj1 ak1 al1, .slice aj2 ak2 al2, .slice aj3 ak3 al3, .int .i64 bi0, .string bi1, .int .i64 bi2, .slice bj1 bk1 bl1, .slice bj2 bk2 bl2, .slice bj3 bk3 bl3, .int .i64 ci0, .string ci1, .int .i64 ci2, .slice cj1 ck1 cl1, .slice cj2 ck2 cl2, .slice cj3 ck3 cl3]) ?_ rfl ?_
      ·exact results_cell_row rfl _ _ w.heap.size 208 _ (0, 0) _ rfl (Et X5.out _ _ _ _ _ _ _ _ _ _ _ _ _ _ _ _ _ _) Tryz.underlying208 rfl (by kernel_rfl)
      ·exact Tj.out
    ·have M4 := aa (QR.out.trans m4)
     have HO : Hid (mW ex ts = none) := by
      unfold mW
      rw [jX.out]
      show (ar di q1).bind _ = _
      rw [qk.out]
      show (ex q2).bind _ = _
      rw [Hf.out]
      show (ar dJ q3).bind _ = _
      rw [l0]
      exact rfl
     clear m4 l0
     unfold ey
     go_wp2
     exact ⟨rfl, M4.out, .inr ⟨HO.out, rfl⟩⟩
   ·have M3 := aa (M2.out.trans m3)
    have HO : Hid (mW ex ts = none) := by
     unfold mW
     rw [jX.out]
     show (ar di q1).bind _ = _
     rw [qk.out]
     show (ex q2).bind _ = _
     rw [th]
     exact rfl
    clear m3 th
    unfold ey
    go_wp2
    exact ⟨rfl, M3.out, .inr ⟨HO.out, rfl⟩⟩
  ·have M2 := aa (FB.out.trans m2)
   have HO : Hid (mW ex ts = none) := by
    unfold mW
    rw [jX.out]
    show (ar di q1).bind _ = _
    rw [fH]
    exact rfl
   clear m2 fH
   unfold ey
   go_wp2
   exact ⟨rfl, M2.out, .inr ⟨HO.out, rfl⟩⟩
 ·have M1 := aa ((Mv.of aq.out).trans m1)
  have HO : Hid (mW ex ts = none) := by
   unfold mW
   rw [lq]
   exact rfl
  clear m1 lq
  unfold ey
  go_wp2
  exact ⟨rfl, M1.out, .inr ⟨HO.out, rfl⟩⟩
end
end Go.Proofs.YtfomndilhlgikajGreatDoor.Rd
