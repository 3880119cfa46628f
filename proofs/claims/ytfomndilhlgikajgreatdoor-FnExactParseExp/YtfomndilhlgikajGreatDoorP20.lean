import Derived.Test.YtfomndilhlgikajGreatDoorP19
set_option maxHeartbeats 8000000
set_option maxRecDepth 100000
namespace Go.Proofs.YtfomndilhlgikajGreatDoor.Rd
open Go.ChangeShapes Go.WideShapes Go.ChangeAt Go.RowKit
def MK (w : World) (g : Nat) (v0 v1 v2 v3 : Value) : World := (((w.setCell ⟨g, 0, none⟩ v0).setCell ⟨g, 1, none⟩ v1).setCell ⟨g, 2, none⟩ v2).setCell ⟨g, 3, none⟩ v3
theorem la (w : World) (g : Nat) (v0 v1 v2 v3 : Value) : Keeps (fun k => k ≠ g) w (MK w g v0 v1 v2 v3) := by
 unfold MK
 exact (((ak w g 0 v0 (fun h => h rfl)).trans (ak _ g 1 v1 (fun h => h rfl))).trans (ak _ g 2 v2 (fun h => h rfl))).trans (ak _ g 3 v3 (fun h => h rfl))
theorem sQ {w : World} {g : Nat} {E : TypeId} {c0 c1 c2 c3 : Value} (h : w.heap[g]? = some (.cells #[c0, c1, c2, c3] E (0, 0))) (v0 v1 v2 v3 : Value) : (MK w g v0 v1 v2 v3).heap[g]? = some (.cells #[v0, v1, v2, v3] E (0, 0)) := by
 have h0 : (w.setCell ⟨g, 0, none⟩ v0).heap[g]? = some (.cells #[v0, c1, c2, c3] E (0, 0)) := ae (j := 0) v0 h
 have h1 : ((w.setCell ⟨g, 0, none⟩ v0).setCell ⟨g, 1, none⟩ v1).heap[g]? = some (.cells #[v0, v1, c2, c3] E (0, 0)) := ae (j := 1) v1 h0
 have h2 : (((w.setCell ⟨g, 0, none⟩ v0).setCell ⟨g, 1, none⟩ v1).setCell ⟨g, 2, none⟩ v2).heap[g]? = some (.cells #[v0, v1, v2, c3] E (0, 0)) := ae (j := 2) v2 h1
 have h3 : ((((w.setCell ⟨g, 0, none⟩ v0).setCell ⟨g, 1, none⟩ v1).setCell ⟨g, 2, none⟩ v2).setCell ⟨g, 3, none⟩ v3).heap[g]? = some (.cells #[v0, v1, v2, v3] E (0, 0)) := ae (j := 3) v3 h2
 exact h3
theorem JK {w : World} {g : Nat} {E : TypeId} {c0 c1 c2 c3 : Value} (h : w.heap[g]? = some (.cells #[c0, c1, c2, c3] E (0, 0))) : (w.cell? ⟨g, 0, none⟩ = some c0 /\ w.cell? ⟨g, 1, none⟩ = some c1 /\ w.cell? ⟨g, 2, none⟩ = some c2 /\ w.cell? ⟨g, 3, none⟩ = some c3) /\ (w.frozen? ⟨g, 0, none⟩ = false /\ w.frozen? ⟨g, 1, none⟩ = false /\ w.frozen? ⟨g, 2, none⟩ = false /\ w.frozen? ⟨g, 3, none⟩ = false) :=
 ⟨⟨cell_of h 0, cell_of h 1, cell_of h 2, cell_of h 3⟩, aj h 0, aj h 1, aj h 2, aj h 3⟩
def jp (w : World) (g : Nat) (v0 v1 v2 v3 v4 v5 : Value) : World := (((((w.setCell ⟨g, 0, none⟩ v0).setCell ⟨g, 1, none⟩ v1).setCell ⟨g, 2, none⟩ v2).setCell ⟨g, 3, none⟩ v3).setCell ⟨g, 4, none⟩ v4).setCell ⟨g, 5, none⟩ v5
theorem cU (w : World) (g : Nat) (v0 v1 v2 v3 v4 v5 : Value) : Keeps (fun k => k ≠ g) w (jp w g v0 v1 v2 v3 v4 v5) := by
 unfold jp
 exact (((((ak w g 0 v0 (fun h => h rfl)).trans (ak _ g 1 v1 (fun h => h rfl))).trans (ak _ g 2 v2 (fun h => h rfl))).trans (ak _ g 3 v3 (fun h => h rfl))).trans (ak _ g 4 v4 (fun h => h rfl))).trans (ak _ g 5 v5 (fun h => h rfl))
theorem eL (w : World) (g : Nat) (v0 v1 v2 v3 v4 v5 : Value) : (jp w g v0 v1 v2 v3 v4 v5).heap.size = w.heap.size := by
 unfold jp
 simp
theorem aZ {w : World} {g : Nat} {E : TypeId} {c0 c1 c2 c3 c4 c5 : Value} (h : w.heap[g]? = some (.cells #[c0, c1, c2, c3, c4, c5] E (0, 0))) (v0 v1 v2 v3 v4 v5 : Value) : (jp w g v0 v1 v2 v3 v4 v5).heap[g]? = some (.cells #[v0, v1, v2, v3, v4, v5] E (0, 0)) := by
 have h0 : (w.setCell ⟨g, 0, none⟩ v0).heap[g]? = some (.cells #[v0, c1, c2, c3, c4, c5] E (0, 0)) := ae (j := 0) v0 h
 have h1 : ((w.setCell ⟨g, 0, none⟩ v0).setCell ⟨g, 1, none⟩ v1).heap[g]? = some (.cells #[v0, v1, c2, c3, c4, c5] E (0, 0)) := ae (j := 1) v1 h0
 have h2 : (((w.setCell ⟨g, 0, none⟩ v0).setCell ⟨g, 1, none⟩ v1).setCell ⟨g, 2, none⟩ v2).heap[g]? = some (.cells #[v0, v1, v2, c3, c4, c5] E (0, 0)) := ae (j := 2) v2 h1
 have h3 : ((((w.setCell ⟨g, 0, none⟩ v0).setCell ⟨g, 1, none⟩ v1).setCell ⟨g, 2, none⟩ v2).setCell ⟨g, 3, none⟩ v3).heap[g]? = some (.cells #[v0, v1, v2, v3, c4, c5] E (0, 0)) := ae (j := 3) v3 h2
 have h4 : (((((w.setCell ⟨g, 0, none⟩ v0).setCell ⟨g, 1, none⟩ v1).setCell ⟨g, 2, none⟩ v2).setCell ⟨g, 3, none⟩ v3).setCell ⟨g, 4, none⟩ v4).heap[g]? = some (.cells #[v0, v1, v2, v3, v4, c5] E (0, 0)) := ae (j := 4) v4 h3
 have h5 : ((((((w.setCell ⟨g, 0, none⟩ v0).setCell ⟨g, 1, none⟩ v1).setCell ⟨g, 2, none⟩ v2).setCell ⟨g, 3, none⟩ v3).setCell ⟨g, 4, none⟩ v4).setCell ⟨g, 5, none⟩ v5).heap[g]? = some (.cells #[v0, v1, v2, v3, v4, v5] E (0, 0)) := ae (j := 5) v5 h4
 exact h5
theorem aG {w : World} {g : Nat} {E : TypeId} {c0 c1 c2 c3 c4 c5 : Value} (h : w.heap[g]? = some (.cells #[c0, c1, c2, c3, c4, c5] E (0, 0))) : (w.cell? ⟨g, 0, none⟩ = some c0 /\ w.cell? ⟨g, 1, none⟩ = some c1 /\ w.cell? ⟨g, 2, none⟩ = some c2 /\ w.cell? ⟨g, 3, none⟩ = some c3 /\ w.cell? ⟨g, 4, none⟩ = some c4 /\ w.cell? ⟨g, 5, none⟩ = some c5) /\ (w.frozen? ⟨g, 0, none⟩ = false /\ w.frozen? ⟨g, 1, none⟩ = false /\ w.frozen? ⟨g, 2, none⟩ = false /\ w.frozen? ⟨g, 3, none⟩ = false /\ w.frozen? ⟨g, 4, none⟩ = false /\ w.frozen? ⟨g, 5, none⟩ = false) :=
 ⟨⟨cell_of h 0, cell_of h 1, cell_of h 2, cell_of h 3, cell_of h 4, cell_of h 5⟩, aj h 0, aj h 1, aj h 2, aj h 3, aj h 4, aj h 5⟩
def Dm (w : World) (g : Nat) (v0 v1 v2 v3 v4 v5 v6 v7 : Value) : World := (((((((w.setCell ⟨g, 0, none⟩ v0).setCell ⟨g, 1, none⟩ v1).setCell ⟨g, 2, none⟩ v2).setCell ⟨g, 3, none⟩ v3).setCell ⟨g, 4, none⟩ v4).setCell ⟨g, 5, none⟩ v5).setCell ⟨g, 6, none⟩ v6).setCell ⟨g, 7, none⟩ v7
theorem kU (w : World) (g : Nat) (v0 v1 v2 v3 v4 v5 v6 v7 : Value) : Keeps (fun k => k ≠ g) w (Dm w g v0 v1 v2 v3 v4 v5 v6 v7) := by
 unfold Dm
 exact (((((((ak w g 0 v0 (fun h => h rfl)).trans (ak _ g 1 v1 (fun h => h rfl))).trans (ak _ g 2 v2 (fun h => h rfl))).trans (ak _ g 3 v3 (fun h => h rfl))).trans (ak _ g 4 v4 (fun h => h rfl))).trans (ak _ g 5 v5 (fun h => h rfl))).trans (ak _ g 6 v6 (fun h => h rfl))).trans (ak _ g 7 v7 (fun h => h rfl))
theorem mx (w : World) (g : Nat) (v0 v1 v2 v3 v4 v5 v6 v7 : Value) : (Dm w g v0 v1 v2 v3 v4 v5 v6 v7).heap.size = w.heap.size := by
 unfold Dm
 simp
theorem sa {w : World} {g : Nat} {E : TypeId} {c0 c1 c2 c3 c4 c5 c6 c7 : Value} (h : w.heap[g]? = some (.cells #[c0, c1, c2, c3, c4, c5, c6, c7] E (0, 0))) (v0 v1 v2 v3 v4 v5 v6 v7 : Value) : (Dm w g v0 v1 v2 v3 v4 v5 v6 v7).heap[g]? = some (.cells #[v0, v1, v2, v3, v4, v5, v6, v7] E (0, 0)) := by
 have h0 : (w.setCell ⟨g, 0, none⟩ v0).heap[g]? = some (.cells #[v0, c1, c2, c3, c4, c5, c6, c7] E (0, 0)) := ae (j := 0) v0 h
 have h1 : ((w.setCell ⟨g, 0, none⟩ v0).setCell ⟨g, 1, none⟩ v1).heap[g]? = some (.cells #[v0, v1, c2, c3, c4, c5, c6, c7] E (0, 0)) := ae (j := 1) v1 h0
 have h2 : (((w.setCell ⟨g, 0, none⟩ v0).setCell ⟨g, 1, none⟩ v1).setCell ⟨g, 2, none⟩ v2).heap[g]? = some (.cells #[v0, v1, v2, c3, c4, c5, c6, c7] E (0, 0)) := ae (j := 2) v2 h1
 have h3 : ((((w.setCell ⟨g, 0, none⟩ v0).setCell ⟨g, 1, none⟩ v1).setCell ⟨g, 2, none⟩ v2).setCell ⟨g, 3, none⟩ v3).heap[g]? = some (.cells #[v0, v1, v2, v3, c4, c5, c6, c7] E (0, 0)) := ae (j := 3) v3 h2
 have h4 : (((((w.setCell ⟨g, 0, none⟩ v0).setCell ⟨g, 1, none⟩ v1).setCell ⟨g, 2, none⟩ v2).setCell ⟨g, 3, none⟩ v3).setCell ⟨g, 4, none⟩ v4).heap[g]? = some (.cells #[v0, v1, v2, v3, v4, c5, c6, c7] E (0, 0)) := ae (j := 4) v4 h3
 have h5 : ((((((w.setCell ⟨g, 0, none⟩ v0).setCell ⟨g, 1, none⟩ v1).setCell ⟨g, 2, none⟩ v2).setCell ⟨g, 3, none⟩ v3).setCell ⟨g, 4, none⟩ v4).setCell ⟨g, 5, none⟩ v5).heap[g]? = some (.cells #[v0, v1, v2, v3, v4, v5, c6, c7] E (0, 0)) := ae (j := 5) v5 h4
 have h6 : (((((((w.setCell ⟨g, 0, none⟩ v0).setCell ⟨g, 1, none⟩ v1).setCell ⟨g, 2, none⟩ v2).setCell ⟨g, 3, none⟩ v3).setCell ⟨g, 4, none⟩ v4).setCell ⟨g, 5, none⟩ v5).setCell ⟨g, 6, none⟩ v6).heap[g]? = some (.cells #[v0, v1, v2, v3, v4, v5, v6, c7] E (0, 0)) := ae (j := 6) v6 h5
 have h7 : ((((((((w.setCell ⟨g, 0, none⟩ v0).setCell ⟨g, 1, none⟩ v1).setCell ⟨g, 2, none⟩ v2).setCell ⟨g, 3, none⟩ v3).setCell ⟨g, 4, none⟩ v4).setCell ⟨g, 5, none⟩ v5).setCell ⟨g, 6, none⟩ v6).setCell ⟨g, 7, none⟩ v7).heap[g]? = some (.cells #[v0, v1, v2, v3, v4, v5, v6, v7] E (0, 0)) := ae (j := 7) v7 h6
 exact h7
theorem sP {w : World} {g : Nat} {E : TypeId} {c0 c1 c2 c3 c4 c5 c6 c7 : Value} (h : w.heap[g]? = some (.cells #[c0, c1, c2, c3, c4, c5, c6, c7] E (0, 0))) : (w.cell? ⟨g, 0, none⟩ = some c0 /\ w.cell? ⟨g, 1, none⟩ = some c1 /\ w.cell? ⟨g, 2, none⟩ = some c2 /\ w.cell? ⟨g, 3, none⟩ = some c3 /\ w.cell? ⟨g, 4, none⟩ = some c4 /\ w.cell? ⟨g, 5, none⟩ = some c5 /\ w.cell? ⟨g, 6, none⟩ = some c6 /\ w.cell? ⟨g, 7, none⟩ = some c7) /\ (w.frozen? ⟨g, 0, none⟩ = false /\ w.frozen? ⟨g, 1, none⟩ = false /\ w.frozen? ⟨g, 2, none⟩ = false /\ w.frozen? ⟨g, 3, none⟩ = false /\ w.frozen? ⟨g, 4, none⟩ = false /\ w.frozen? ⟨g, 5, none⟩ = false /\ w.frozen? ⟨g, 6, none⟩ = false /\ w.frozen? ⟨g, 7, none⟩ = false) :=
 ⟨⟨cell_of h 0, cell_of h 1, cell_of h 2, cell_of h 3, cell_of h 4, cell_of h 5, cell_of h 6, cell_of h 7⟩, aj h 0, aj h 1, aj h 2, aj h 3, aj h 4, aj h 5, aj h 6, aj h 7⟩
def Dl (w : World) (g : Nat) (v0 v1 v2 v3 v4 v5 v6 v7 v8 : Value) : World := ((((((((w.setCell ⟨g, 0, none⟩ v0).setCell ⟨g, 1, none⟩ v1).setCell ⟨g, 2, none⟩ v2).setCell ⟨g, 3, none⟩ v3).setCell ⟨g, 4, none⟩ v4).setCell ⟨g, 5, none⟩ v5).setCell ⟨g, 6, none⟩ v6).setCell ⟨g, 7, none⟩ v7).setCell ⟨g, 8, none⟩ v8
theorem nt (w : World) (g : Nat) (v0 v1 v2 v3 v4 v5 v6 v7 v8 : Value) : Keeps (fun k => k ≠ g) w (Dl w g v0 v1 v2 v3 v4 v5 v6 v7 v8) := by
 unfold Dl
 exact ((((((((ak w g 0 v0 (fun h => h rfl)).trans (ak _ g 1 v1 (fun h => h rfl))).trans (ak _ g 2 v2 (fun h => h rfl))).trans (ak _ g 3 v3 (fun h => h rfl))).trans (ak _ g 4 v4 (fun h => h rfl))).trans (ak _ g 5 v5 (fun h => h rfl))).trans (ak _ g 6 v6 (fun h => h rfl))).trans (ak _ g 7 v7 (fun h => h rfl))).trans (ak _ g 8 v8 (fun h => h rfl))
theorem pK (w : World) (g : Nat) (v0 v1 v2 v3 v4 v5 v6 v7 v8 : Value) : (Dl w g v0 v1 v2 v3 v4 v5 v6 v7 v8).heap.size = w.heap.size := by
 unfold Dl
 simp
theorem r9 {w : World} {g : Nat} {E : TypeId} {c0 c1 c2 c3 c4 c5 c6 c7 c8 : Value} (h : w.heap[g]? = some (.cells #[c0, c1, c2, c3, c4, c5, c6, c7, c8] E (0, 0))) (v0 v1 v2 v3 v4 v5 v6 v7 v8 : Value) : (Dl w g v0 v1 v2 v3 v4 v5 v6 v7 v8).heap[g]? = some (.cells #[v0, v1, v2, v3, v4, v5, v6, v7, v8] E (0, 0)) := by
 have h0 : (w.setCell ⟨g, 0, none⟩ v0).heap[g]? = some (.cells #[v0, c1, c2, c3, c4, c5, c6, c7, c8] E (0, 0)) := ae (j := 0) v0 h
 have h1 : ((w.setCell ⟨g, 0, none⟩ v0).setCell ⟨g, 1, none⟩ v1).heap[g]? = some (.cells #[v0, v1, c2, c3, c4, c5, c6, c7, c8] E (0, 0)) := ae (j := 1) v1 h0
 have h2 : (((w.setCell ⟨g, 0, none⟩ v0).setCell ⟨g, 1, none⟩ v1).setCell ⟨g, 2, none⟩ v2).heap[g]? = some (.cells #[v0, v1, v2, c3, c4, c5, c6, c7, c8] E (0, 0)) := ae (j := 2) v2 h1
 have h3 : ((((w.setCell ⟨g, 0, none⟩ v0).setCell ⟨g, 1, none⟩ v1).setCell ⟨g, 2, none⟩ v2).setCell ⟨g, 3, none⟩ v3).heap[g]? = some (.cells #[v0, v1, v2, v3, c4, c5, c6, c7, c8] E (0, 0)) := ae (j := 3) v3 h2
 have h4 : (((((w.setCell ⟨g, 0, none⟩ v0).setCell ⟨g, 1, none⟩ v1).setCell ⟨g, 2, none⟩ v2).setCell ⟨g, 3, none⟩ v3).setCell ⟨g, 4, none⟩ v4).heap[g]? = some (.cells #[v0, v1, v2, v3, v4, c5, c6, c7, c8] E (0, 0)) := ae (j := 4) v4 h3
 have h5 : ((((((w.setCell ⟨g, 0, none⟩ v0).setCell ⟨g, 1, none⟩ v1).setCell ⟨g, 2, none⟩ v2).setCell ⟨g, 3, none⟩ v3).setCell ⟨g, 4, none⟩ v4).setCell ⟨g, 5, none⟩ v5).heap[g]? = some (.cells #[v0, v1, v2, v3, v4, v5, c6, c7, c8] E (0, 0)) := ae (j := 5) v5 h4
 have h6 : (((((((w.setCell ⟨g, 0, none⟩ v0).setCell ⟨g, 1, none⟩ v1).setCell ⟨g, 2, none⟩ v2).setCell ⟨g, 3, none⟩ v3).setCell ⟨g, 4, none⟩ v4).setCell ⟨g, 5, none⟩ v5).setCell ⟨g, 6, none⟩ v6).heap[g]? = some (.cells #[v0, v1, v2, v3, v4, v5, v6, c7, c8] E (0, 0)) := ae (j := 6) v6 h5
 have h7 : ((((((((w.setCell ⟨g, 0, none⟩ v0).setCell ⟨g, 1, none⟩ v1).setCell ⟨g, 2, none⟩ v2).setCell ⟨g, 3, none⟩ v3).setCell ⟨g, 4, none⟩ v4).setCell ⟨g, 5, none⟩ v5).setCell ⟨g, 6, none⟩ v6).setCell ⟨g, 7, none⟩ v7).heap[g]? = some (.cells #[v0, v1, v2, v3, v4, v5, v6, v7, c8] E (0, 0)) := ae (j := 7) v7 h6
 have h8 : (((((((((w.setCell ⟨g, 0, none⟩ v0).setCell ⟨g, 1, none⟩ v1).setCell ⟨g, 2, none⟩ v2).setCell ⟨g, 3, none⟩ v3).setCell ⟨g, 4, none⟩ v4).setCell ⟨g, 5, none⟩ v5).setCell ⟨g, 6, none⟩ v6).setCell ⟨g, 7, none⟩ v7).setCell ⟨g, 8, none⟩ v8).heap[g]? = some (.cells #[v0, v1, v2, v3, v4, v5, v6, v7, v8] E (0, 0)) := ae (j := 8) v8 h7
 exact h8
theorem o8 {w : World} {g : Nat} {E : TypeId} {c0 c1 c2 c3 c4 c5 c6 c7 c8 : Value} (h : w.heap[g]? = some (.cells #[c0, c1, c2, c3, c4, c5, c6, c7, c8] E (0, 0))) : (w.cell? ⟨g, 0, none⟩ = some c0 /\ w.cell? ⟨g, 1, none⟩ = some c1 /\ w.cell? ⟨g, 2, none⟩ = some c2 /\ w.cell? ⟨g, 3, none⟩ = some c3 /\ w.cell? ⟨g, 4, none⟩ = some c4 /\ w.cell? ⟨g, 5, none⟩ = some c5 /\ w.cell? ⟨g, 6, none⟩ = some c6 /\ w.cell? ⟨g, 7, none⟩ = some c7 /\ w.cell? ⟨g, 8, none⟩ = some c8) /\ (w.frozen? ⟨g, 0, none⟩ = false /\ w.frozen? ⟨g, 1, none⟩ = false /\ w.frozen? ⟨g, 2, none⟩ = false /\ w.frozen? ⟨g, 3, none⟩ = false /\ w.frozen? ⟨g, 4, none⟩ = false /\ w.frozen? ⟨g, 5, none⟩ = false /\ w.frozen? ⟨g, 6, none⟩ = false /\ w.frozen? ⟨g, 7, none⟩ = false /\ w.frozen? ⟨g, 8, none⟩ = false) :=
 ⟨⟨cell_of h 0, cell_of h 1, cell_of h 2, cell_of h 3, cell_of h 4, cell_of h 5, cell_of h 6, cell_of h 7, cell_of h 8⟩, aj h 0, aj h 1, aj h 2, aj h 3, aj h 4, aj h 5, aj h 6, aj h 7, aj h 8⟩
theorem Keeps.mvo {b g : Nat} {w v v' : World} (hm : Mv b w v) (hk : Keeps (fun k => k ≠ g) v v') (hg : w.heap.size <= g) : Mv b w v' := ⟨hk.os.trans hm.os, hk.tape.trans hm.tape, hk.output.trans hm.output, Nat.le_trans hm.size hk.size, fun k h => (hk.block k (by have := h.1; show k ≠ g; omega)).trans (hm.block k h)⟩
section
variable {A : Arr} {b d : Nat} {w : World} {r : Option (List TokZ)}
theorem Sr.other {A : Arr} {b d g : Nat} {w w' : World} {ts : List TokZ} (h : Sr A b w d ts) (hk : Keeps (fun k => k ≠ g) w w') (hg : b ≠ g) (hA : A.g ≠ g) : Sr A b w' d ts := by
 obtain ⟨p, h0, h1, h2, h3⟩ := h
 exact ⟨p, (hk.block b hg).trans h0, h1, cw h2 hk.size fun _ => hk.block A.g hA, h3⟩
theorem Sr.glt {ts : List TokZ} (h : Sr A b w d ts) : A.g < w.heap.size := by
 obtain ⟨p, t', r', e9, h0, ho, hp, hl, -, hd, h2, h3, h5⟩ := h.head
 exact (h2 (fun e => by rw [e] at hp; simp at hp)).2.1
theorem St.other {A : Arr} {b d g : Nat} {w w' : World} {r : Option (List TokZ)} (h : St A b w d r) (hk : Keeps (fun k => k ≠ g) w w') (hg : b ≠ g) (hA : ∀ ts, r = some ts -> A.g ≠ g) : St A b w' d r := by
 cases r with
 | none =>
  obtain ⟨o, n, cap, p, d, h0⟩ := h
  exact ⟨o, n, cap, p, d, (hk.block b hg).trans h0⟩
 | some ts => exact Sr.other h hk hg (hA ts rfl)
def AG (A : Arr) (w : World) (r : Option (List TokZ)) : Prop := ∀ ts, r = some ts -> A.g < w.heap.size
theorem St.glt {A : Arr} {b d : Nat} {w : World} {r : Option (List TokZ)} (h : St A b w d r) : AG A w r := fun ts e => by
 subst e
 exact Sr.glt h
theorem pJ {A : Arr} {b d : Nat} {w V V' : World} {r : Option (List TokZ)} (hm : Mv b w V) (hS : St A b V d r) (hk : Keeps (fun k => k ≠ w.heap.size) V V') (hb : b < w.heap.size) (hA : AG A w r) : St A b V' d r /\ Mv b w V' :=
 ⟨hS.other hk (by omega) (fun ts e => by have := hA ts e; omega), Keeps.mvo hm hk U0⟩
theorem cT {V : World} {o : Obj} {k : Nat} {x : Obj} (h : V.heap[k]? = some x) : (V.alloc o).heap[k]? = some x := (Below.heap_alloc V o k (ad h)).trans h
theorem AP {t : TokZ} {rest : List TokZ} (h : Sr A b w d (t :: rest)) : Calls Tryz.prog 126 #[.pointer (some ⟨b, 0, none⟩)] w fun e w' => e = .returned (.agg #[.int .i64 t.k, .string t.s, .int .i64 t.l, .int .i64 t.c]) /\ Below w.heap.size w w' := by
 obtain ⟨p, t', r', e9, h0, ho, hp, hl, ⟨t0, t1, t2, t3⟩, hd, h2, h3, h5⟩ := h.head
 cases e9
 have au := h.lt
 have ec := h.glt
 have Mz : (p : Int) < A.all.length := by omega
 have x0 := cell_of h0 0
 have x1 := cell_of h0 1
 have x3 := cell_of h0 3
 simp only [U7, U8, U9] at x0 x1 x3
 rw [ho] at x0
 generalize A.all.length = N at *
 generalize A.g = g at *
 have Mu : decide (N <= p) = false := by simpa using hp
 clear h h0 ho h2 h3 h5 hd
 obtain ⟨tk, tS, tl, tc⟩ := t
 simp only at t0 t1 t2 t3
 have Cx : ¬ g = w.heap.size := by omega
 have HX : ∀ m, Hid (((w.alloc (.cells #[.int .i64 0, .string ⟨#[]⟩, .int .i64 0, .int .i64 0] 122)).drewN m).heap[w.heap.size]? = some (.cells #[.int .i64 0, .string ⟨#[]⟩, .int .i64 0, .int .i64 0] 122 (0, 0))) := fun m => heap_alloc_new w _
 go_enter Tryz.func126, Tryz.ntmps126
 go_wp2
 go_quiet (fail)
 go_wp2
 go_region
 all_goals
  go_wp2
  refine bodyPost_ret (v := .agg #[.int .i64 tk, .string tS, .int .i64 tl, .int .i64 tc]) ?_ rfl ?_
  ·exact results_cell_row rfl _ _ w.heap.size 122 _ (0, 0) _ rfl (sQ (HX (nq + 1)).out _ _ _ _) Tryz.underlying122 rfl (by kernel_rfl)
  ·refine ⟨rfl, ?_⟩
   have hk := la ((w.alloc (.cells #[.int .i64 0, .string ⟨#[]⟩, .int .i64 0, .int .i64 0] 122)).drewN (nq + 1)) w.heap.size (.int .i64 tk) (.string tS) (.int .i64 tl) (.int .i64 tc)
   have hb := ((U4 w).alloc U0 (.cells #[.int .i64 0, .string ⟨#[]⟩, .int .i64 0, .int .i64 0] 122))
   exact ⟨hk.os.trans hb.os, hk.tape.trans hb.tape, hk.output.trans hb.output, Nat.le_trans hb.size hk.size, fun k h => (hk.block k (by show k ≠ _; omega)).trans (hb.block k h)⟩
theorem DL (h : Sb b w) : Calls Tryz.prog 126 #[.pointer (some ⟨b, 0, none⟩)] w fun e w' => e = .returned (.agg #[.int .i64 0, .string ⟨#[]⟩, .int .i64 0, .int .i64 0]) /\ Sb b w' /\ Mv b w w' := by
 have au := h.lt
 obtain ⟨o, n, cap, p, d, h0⟩ := h
 have x3 := cell_of h0 3
 have xf := aj h0 3
 simp only [U7, U8, U9] at x3
 have HX : ∀ m, Hid (((w.alloc (.cells #[.int .i64 0, .string ⟨#[]⟩, .int .i64 0, .int .i64 0] 122)).drewN m).heap[w.heap.size]? = some (.cells #[.int .i64 0, .string ⟨#[]⟩, .int .i64 0, .int .i64 0] 122 (0, 0))) := fun m => heap_alloc_new w _
 have H0 := aa h0
 clear h0
 go_enter Tryz.func126, Tryz.ntmps126
 go_wp2
 go_quiet (fail)
 go_wp2
 have hV : Mv b w (((w.alloc (.cells #[.int .i64 0, .string ⟨#[]⟩, .int .i64 0, .int .i64 0] 122)).drewN nq).setCell ⟨b, 3, none⟩ (.bool true)) := ((Mv.alloc b w _).trans (Mv.of (br _ _))).trans (Mv.set b 3 _ _)
 have hS : Sb b (((w.alloc (.cells #[.int .i64 0, .string ⟨#[]⟩, .int .i64 0, .int .i64 0] 122)).drewN nq).setCell ⟨b, 3, none⟩ (.bool true)) := Sb.set (((br _ _).block b (by simp; omega)).trans ((Below.heap_alloc w _ b au).trans H0.out))
 have hx : (((w.alloc (.cells #[.int .i64 0, .string ⟨#[]⟩, .int .i64 0, .int .i64 0] 122)).drewN nq).setCell ⟨b, 3, none⟩ (.bool true)).heap[w.heap.size]? = some (.cells #[.int .i64 0, .string ⟨#[]⟩, .int .i64 0, .int .i64 0] 122 (0, 0)) := (az _ (by omega)).trans (HX nq).out
 generalize (((w.alloc (.cells #[.int .i64 0, .string ⟨#[]⟩, .int .i64 0, .int .i64 0] 122)).drewN nq).setCell ⟨b, 3, none⟩ (.bool true)) = V at hV hS hx ⊢
 refine bodyPost_ret (v := .agg #[.int .i64 0, .string ⟨#[]⟩, .int .i64 0, .int .i64 0]) ?_ rfl ?_
 ·exact results_cell_row rfl _ _ w.heap.size 122 _ (0, 0) _ rfl (sQ hx _ _ _ _) Tryz.underlying122 rfl (by kernel_rfl)
 ·have hk := la V w.heap.size (.int .i64 0) (.string ⟨#[]⟩) (.int .i64 0) (.int .i64 0)
  exact ⟨rfl, St.other (A := ⟨none, 0, 0, []⟩) (d := 0) (r := none) hS hk (by omega) (fun ts e => by cases e), Keeps.mvo hV hk U0⟩
theorem yp {t : TokZ} {rest : List TokZ} (h : Sr A b w d (t :: rest)) (hr : Ends rest) : Calls Tryz.prog 78 #[.pointer (some ⟨b, 0, none⟩)] w fun e w' => e = .returned (.agg #[.int .i64 t.k, .string t.s, .int .i64 t.l, .int .i64 t.c]) /\ Sr A b w' d rest /\ Mv b w w' := by
 obtain ⟨p, t', r', e9, h0, ho, hp, hl, -, hd, h2, h3, h5⟩ := h.head
 cases e9
 have au := h.lt
 have ec := h.glt
 have L0 : p <= 2000 := by omega
 have H := aa h
 have H0 := aa h0
 have HD := aa hd
 have H2 := aa h2
 have HL := aa hl
 have HX : Hid ((w.alloc (.cells #[.int .i64 0, .string ⟨#[]⟩, .int .i64 0, .int .i64 0] 122)).heap[w.heap.size]? = some (.cells #[.int .i64 0, .string ⟨#[]⟩, .int .i64 0, .int .i64 0] 122 (0, 0))) := heap_alloc_new w _
 have aq : Hid (Below w.heap.size w (w.alloc (.cells #[.int .i64 0, .string ⟨#[]⟩, .int .i64 0, .int .i64 0] 122))) := (U4 w).alloc U0 _
 clear h h0 hd h2 h5 ho hp hl
 go_enter Tryz.func78, Tryz.ntmps78
 go_wp2_with fail
 refine (AP (H.out.below aq.out)).mono ?_
 rintro e w1 ⟨rfl, bS⟩
 have iN : w.heap.size + 1 <= w1.heap.size := by simpa using bS.size
 have Fc : Below w.heap.size w w1 := aq.out.trans (bS.mono (by simp))
 have k0 := (Fc.block b au).trans H0.out
 have K0 := aa k0
 have x1 := cell_of k0 1
 have xf := aj k0 1
 simp only [U7, U8, U9] at x1
 have hx := (bS.block w.heap.size (by simp)).trans HX.out
 obtain ⟨⟨y0, y1, y2, y3⟩, f0, f1, f2, f3⟩ := JK hx
 have aK := aa hx
 have dH := aa Fc
 clear bS Fc k0 hx
 have aI : b < w1.heap.size := by omega
 have gC : w.heap.size < w1.heap.size := by omega
 have CV : ¬ w.heap.size = b := by omega
 go_wp2
 have hS : Sr A b (w1.setCell ⟨b, 1, none⟩ (.int .i64 ((p : Int) + 1))) d rest := Sr.step K0.out HD.out (dy H2.out dH.out) h3 HL.out hr
 have hM : Mv b w (w1.setCell ⟨b, 1, none⟩ (.int .i64 ((p : Int) + 1))) := (Mv.of dH.out).trans (Mv.set b 1 _ _)
 have hx : (w1.setCell ⟨b, 1, none⟩ (.int .i64 ((p : Int) + 1))).heap[w.heap.size]? = _ := (az _ CV).trans aK.out
 generalize w1.setCell ⟨b, 1, none⟩ (.int .i64 ((p : Int) + 1)) = V at hS hM hx ⊢
 have hf := pJ (A := A) (r := some rest) hM hS (la V w.heap.size (.int .i64 t.k) (.string t.s) (.int .i64 t.l) (.int .i64 t.c)) au fun _ _ => ec
 refine bodyPost_ret (v := .agg #[.int .i64 t.k, .string t.s, .int .i64 t.l, .int .i64 t.c]) ?_ rfl ?_
 ·exact results_cell_row rfl _ _ w.heap.size 122 _ (0, 0) _ rfl (cT (sQ hx _ _ _ _)) Tryz.underlying122 rfl (by kernel_rfl)
 ·exact ⟨rfl, St.alloc (r := some rest) hf.1 _, hf.2.trans (Mv.alloc b _ _)⟩
theorem Ap (h : Sb b w) : Calls Tryz.prog 78 #[.pointer (some ⟨b, 0, none⟩)] w fun e w' => e = .returned (.agg #[.int .i64 0, .string ⟨#[]⟩, .int .i64 0, .int .i64 0]) /\ Sb b w' /\ Mv b w w' := by
 have au := h.lt
 have H := aa h
 have HX : Hid ((w.alloc (.cells #[.int .i64 0, .string ⟨#[]⟩, .int .i64 0, .int .i64 0] 122)).heap[w.heap.size]? = some (.cells #[.int .i64 0, .string ⟨#[]⟩, .int .i64 0, .int .i64 0] 122 (0, 0))) := heap_alloc_new w _
 have aq : Hid (Below w.heap.size w (w.alloc (.cells #[.int .i64 0, .string ⟨#[]⟩, .int .i64 0, .int .i64 0] 122))) := (U4 w).alloc U0 _
 clear h
 go_enter Tryz.func78, Tryz.ntmps78
 go_wp2_with fail
 refine (DL (H.out.below aq.out)).mono ?_
 rintro e w1 ⟨rfl, Dx, vu⟩
 have iN : w.heap.size + 1 <= w1.heap.size := by simpa using vu.size
 have Ct := aa ((Mv.of aq.out).trans vu)
 have hx := (vu.block w.heap.size ⟨by simp, by omega⟩).trans HX.out
 obtain ⟨o, n, cap, p, d', k0⟩ := Dx
 have K0 := aa k0
 have x1 := cell_of k0 1
 have xf := aj k0 1
 simp only [U7, U8, U9] at x1
 obtain ⟨⟨y0, y1, y2, y3⟩, f0, f1, f2, f3⟩ := JK hx
 have aK := aa hx
 clear vu k0 hx
 have aI : b < w1.heap.size := by omega
 have gC : w.heap.size < w1.heap.size := by omega
 have CV : ¬ w.heap.size = b := by omega
 go_wp2
 have hS : Sb b (w1.setCell ⟨b, 1, none⟩ (.int .i64 (wrap64 (p + 1)))) := Sb.step K0.out
 have hM : Mv b w (w1.setCell ⟨b, 1, none⟩ (.int .i64 (wrap64 (p + 1)))) := Ct.out.trans (Mv.set b 1 _ _)
 have hx : (w1.setCell ⟨b, 1, none⟩ (.int .i64 (wrap64 (p + 1)))).heap[w.heap.size]? = _ := (az _ CV).trans aK.out
 generalize w1.setCell ⟨b, 1, none⟩ (.int .i64 (wrap64 (p + 1))) = V at hS hM hx ⊢
 have hf := pJ (A := ⟨none, 0, 0, []⟩) (d := 0) (r := none) hM hS (la V w.heap.size (.int .i64 0) (.string ⟨#[]⟩) (.int .i64 0) (.int .i64 0)) au fun _ e => by cases e
 refine bodyPost_ret (v := .agg #[.int .i64 0, .string ⟨#[]⟩, .int .i64 0, .int .i64 0]) ?_ rfl ?_
 ·exact results_cell_row rfl _ _ w.heap.size 122 _ (0, 0) _ rfl (cT (sQ hx _ _ _ _)) Tryz.underlying122 rfl (by kernel_rfl)
 ·exact ⟨rfl, Sb.below hf.1 ((U4 _).alloc U0 _), hf.2.trans (Mv.alloc b _ _)⟩
theorem iZ (h : St A b w d r) (hr : ∀ ts, r = some ts -> Ends ts.tail) : Calls Tryz.prog 78 #[.pointer (some ⟨b, 0, none⟩)] w fun e w' => ∃ k s l c, e = .returned (.agg #[.int .i64 k, .string s, .int .i64 l, .int .i64 c]) /\ St A b w' d (r.map List.tail) /\ Mv b w w' /\ ∀ ts, r = some ts -> s = jN ts := by
 cases r with
 | none =>
  refine (Ap h).mono ?_
  rintro e w' ⟨rfl, h1, h2⟩
  exact ⟨_, _, _, _, rfl, h1, h2, fun ts e => by cases e⟩
 | some ts =>
  have h' : Sr A b w d ts := h
  obtain ⟨p, t, rest, rfl, -⟩ := h'.head
  refine (yp h' (hr _ rfl)).mono ?_
  rintro e w' ⟨rfl, h1, h2⟩
  exact ⟨_, _, _, _, rfl, h1, h2, fun ts e => by cases e; rfl⟩
end
end Go.Proofs.YtfomndilhlgikajGreatDoor.Rd
