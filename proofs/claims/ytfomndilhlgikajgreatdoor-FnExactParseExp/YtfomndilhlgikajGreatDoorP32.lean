import Derived.Test.YtfomndilhlgikajGreatDoorP31
set_option maxHeartbeats 8000000
set_option maxRecDepth 100000
namespace Go.Proofs.YtfomndilhlgikajGreatDoor.Rd
open Go.ChangeShapes Go.WideShapes Go.ChangeAt Go.RowKit
def zs (w : World) (g : Nat) (v0 v1 v2 v3 v4 v5 v6 : Value) : World := (((((((w.setCell ⟨g, 0, none⟩ v0).setCell ⟨g, 1, none⟩ v1).setCell ⟨g, 2, none⟩ v2).setCell ⟨g, 3, none⟩ v3).setCell ⟨g, 4, none⟩ v4).setCell ⟨g, 5, none⟩ v5).setCell ⟨g, 6, none⟩ v6)
theorem kW (w : World) (g : Nat) (v0 v1 v2 v3 v4 v5 v6 : Value) : Keeps (fun k => k ≠ g) w (zs w g v0 v1 v2 v3 v4 v5 v6) := by
 unfold zs
 exact (((((((ak w g 0 v0 (fun h => h rfl)).trans (ak _ g 1 v1 (fun h => h rfl))).trans (ak _ g 2 v2 (fun h => h rfl))).trans (ak _ g 3 v3 (fun h => h rfl))).trans (ak _ g 4 v4 (fun h => h rfl))).trans (ak _ g 5 v5 (fun h => h rfl))).trans (ak _ g 6 v6 (fun h => h rfl)))
theorem mN (w : World) (g : Nat) (v0 v1 v2 v3 v4 v5 v6 : Value) : (zs w g v0 v1 v2 v3 v4 v5 v6).heap.size = w.heap.size := by
 unfold zs
 simp
theorem sG {w : World} {g : Nat} {E : TypeId} {c0 c1 c2 c3 c4 c5 c6 : Value} (h : w.heap[g]? = some (.cells #[c0, c1, c2, c3, c4, c5, c6] E (0, 0))) (v0 v1 v2 v3 v4 v5 v6 : Value) : (zs w g v0 v1 v2 v3 v4 v5 v6).heap[g]? = some (.cells #[v0, v1, v2, v3, v4, v5, v6] E (0, 0)) := by
 have h0 : (w.setCell ⟨g, 0, none⟩ v0).heap[g]? = some (.cells #[v0, c1, c2, c3, c4, c5, c6] E (0, 0)) := ae (j := 0) v0 h
 have h1 : ((w.setCell ⟨g, 0, none⟩ v0).setCell ⟨g, 1, none⟩ v1).heap[g]? = some (.cells #[v0, v1, c2, c3, c4, c5, c6] E (0, 0)) := ae (j := 1) v1 h0
 have h2 : (((w.setCell ⟨g, 0, none⟩ v0).setCell ⟨g, 1, none⟩ v1).setCell ⟨g, 2, none⟩ v2).heap[g]? = some (.cells #[v0, v1, v2, c3, c4, c5, c6] E (0, 0)) := ae (j := 2) v2 h1
 have h3 : ((((w.setCell ⟨g, 0, none⟩ v0).setCell ⟨g, 1, none⟩ v1).setCell ⟨g, 2, none⟩ v2).setCell ⟨g, 3, none⟩ v3).heap[g]? = some (.cells #[v0, v1, v2, v3, c4, c5, c6] E (0, 0)) := ae (j := 3) v3 h2
 have h4 : (((((w.setCell ⟨g, 0, none⟩ v0).setCell ⟨g, 1, none⟩ v1).setCell ⟨g, 2, none⟩ v2).setCell ⟨g, 3, none⟩ v3).setCell ⟨g, 4, none⟩ v4).heap[g]? = some (.cells #[v0, v1, v2, v3, v4, c5, c6] E (0, 0)) := ae (j := 4) v4 h3
 have h5 : ((((((w.setCell ⟨g, 0, none⟩ v0).setCell ⟨g, 1, none⟩ v1).setCell ⟨g, 2, none⟩ v2).setCell ⟨g, 3, none⟩ v3).setCell ⟨g, 4, none⟩ v4).setCell ⟨g, 5, none⟩ v5).heap[g]? = some (.cells #[v0, v1, v2, v3, v4, v5, c6] E (0, 0)) := ae (j := 5) v5 h4
 have h6 : (((((((w.setCell ⟨g, 0, none⟩ v0).setCell ⟨g, 1, none⟩ v1).setCell ⟨g, 2, none⟩ v2).setCell ⟨g, 3, none⟩ v3).setCell ⟨g, 4, none⟩ v4).setCell ⟨g, 5, none⟩ v5).setCell ⟨g, 6, none⟩ v6).heap[g]? = some (.cells #[v0, v1, v2, v3, v4, v5, v6] E (0, 0)) := ae (j := 6) v6 h5
 exact h6
theorem D5 {w : World} {g : Nat} {E : TypeId} {c0 c1 c2 c3 c4 c5 c6 : Value} (h : w.heap[g]? = some (.cells #[c0, c1, c2, c3, c4, c5, c6] E (0, 0))) : (w.cell? ⟨g, 0, none⟩ = some c0 /\ w.cell? ⟨g, 1, none⟩ = some c1 /\ w.cell? ⟨g, 2, none⟩ = some c2 /\ w.cell? ⟨g, 3, none⟩ = some c3 /\ w.cell? ⟨g, 4, none⟩ = some c4 /\ w.cell? ⟨g, 5, none⟩ = some c5 /\ w.cell? ⟨g, 6, none⟩ = some c6) /\ (w.frozen? ⟨g, 0, none⟩ = false /\ w.frozen? ⟨g, 1, none⟩ = false /\ w.frozen? ⟨g, 2, none⟩ = false /\ w.frozen? ⟨g, 3, none⟩ = false /\ w.frozen? ⟨g, 4, none⟩ = false /\ w.frozen? ⟨g, 5, none⟩ = false /\ w.frozen? ⟨g, 6, none⟩ = false) :=
 ⟨⟨cell_of h 0, cell_of h 1, cell_of h 2, cell_of h 3, cell_of h 4, cell_of h 5, cell_of h 6⟩, aj h 0, aj h 1, aj h 2, aj h 3, aj h 4, aj h 5, aj h 6⟩
def FN (k : Int) (t : ByteArray) (ce : List Value) (v4 v5 : Value) (w : World) (e : Ending) (w' : World) : Prop := ∃ g, w.heap.size <= g /\ g < w'.heap.size /\ e = .returned (.agg #[.int .i64 k, .string t, .int .i64 0, .slice (some ⟨g, 0, none⟩) 1 1, v4, v5]) /\ w'.heap[g]? = some (.cells ce.toArray 34 (0, 0)) /\ Below w.heap.size w w'
theorem uI {ce : List Value} (t : ByteArray) (hf : Fx ce) (w : World) : Calls Tryz.prog 208 #[.agg ([Value.string t] ++ ce).toArray] w (FN 5 t ce (.slice none 0 0) (.slice none 0 0) w) := by
 obtain ⟨a0, a1, a2, p1, q1, z1, p2, q2, z2, p3, q3, z3, rfl⟩ := hf
 go_enter Tryz.func208, Tryz.ntmps208
 go_wp2
 refine bodyPost_ret (v := .agg #[.int .i64 5, .string t, .int .i64 0, .slice (some ⟨w.heap.size + 1 + 1, 0, none⟩) 1 1, .slice none 0 0, .slice none 0 0]) ?_ rfl ?_
 ·refine results_cell_row rfl _ _ (w.heap.size + 1) 34 _ (0, 0) _ rfl (cT ?_) Tryz.underlying34 rfl (by kernel_rfl)
  have h9 := heap_alloc_new (w.alloc (.cells #[.string t, .int .i64 a0, .string a1, .int .i64 a2, .slice p1 q1 z1, .slice p2 q2 z2, .slice p3 q3 z3] 201)) (.cells #[.int .i64 5, .string t, .int .i64 0, .slice (some ⟨w.heap.size + 1 + 1, 0, none⟩) 1 1, .slice none 0 0, .slice none 0 0] 34)
  simpa using h9
 ·refine ⟨w.heap.size + 1 + 1, by omega, by simp, rfl, ?_, (((U4 w).alloc U0 _).alloc (by simp) _).alloc (by simp; omega) _⟩
  have h9 := heap_alloc_new ((w.alloc (.cells #[.string t, .int .i64 a0, .string a1, .int .i64 a2, .slice p1 q1 z1, .slice p2 q2 z2, .slice p3 q3 z3] 201)).alloc (.cells #[.int .i64 5, .string t, .int .i64 0, .slice (some ⟨w.heap.size + 1 + 1, 0, none⟩) 1 1, .slice none 0 0, .slice none 0 0] 34)) (.cells #[.int .i64 a0, .string a1, .int .i64 a2, .slice p1 q1 z1, .slice p2 q2 z2, .slice p3 q3 z3] 34)
  simpa using h9
section
variable {b g d : Nat} {w : World} {ts : List TokZ}
def Ae (b g d : Nat) (w : World) (ts : List TokZ) (one : Option (Tr × List TokZ)) (P : Tr -> List Value -> World -> Nat -> Prop) (e : Ending) (w' : World) : Prop := Mv b w w' /\ ((∃ t q cs h, one = some (t, q) /\ e = .returned (.agg cs.toArray) /\ Ir b g w' d q /\ h + q.length <= ts.length /\ P t cs w' h) \/ (one = none /\ e = ey))
def ML (s0 : Nat) (t : Tr) (cs : List Value) (w' : World) (h : Nat) : Prop := ∃ s e ce, t = BF s e /\ cs = [Value.string s] ++ ce /\ Fx ce /\ s.size <= 1500 /\ TreeT w' s0 w'.heap.size h 0 e ce
theorem AC {ex : bF} {n : Nat} (h : Ir b g w d ts) (hn : ts.length <= n) (hE : CI b g d n ex) : Calls Tryz.prog 207 #[.pointer (some ⟨b, 0, none⟩)] w (Ae b g d w ts (lM ex ts) (ML (w.heap.size + 1))) := by
 have au := h.lt
 have ec := h.glt
 have HE := aa hE
 have dr := aa h.ends
 have aq : Hid (Below w.heap.size w (w.alloc (.cells #[.string ⟨#[]⟩, .int .i64 0, .string ⟨#[]⟩, .int .i64 0, .slice none 0 0, .slice none 0 0, .slice none 0 0] 201))) := (U4 w).alloc U0 _
 have H0 := aa (h.below aq.out)
 have HX : Hid ((w.alloc (.cells #[.string ⟨#[]⟩, .int .i64 0, .string ⟨#[]⟩, .int .i64 0, .slice none 0 0, .slice none 0 0, .slice none 0 0] 201)).heap[w.heap.size]? = some (.cells #[.string ⟨#[]⟩, .int .i64 0, .string ⟨#[]⟩, .int .i64 0, .slice none 0 0, .slice none 0 0, .slice none 0 0] 201 (0, 0))) := heap_alloc_new w _
 clear h hE
 go_enter Tryz.func207, Tryz.ntmps207
 go_wp2_with fail
 refine (pU H0.out).mono ?_
 rintro e w1 ⟨⟨p, hp, rfl, h1⟩ | ⟨hp, rfl⟩, m1⟩
 ·have H1 := aa h1
  have M1 := aa ((Mv.of aq.out).trans m1)
  have X1 := aa (af HX.out m1 (by omega))
  have jX := aa hp
  obtain ⟨he1, fB⟩ := gZ dr.out hp
  have cI : p.1.size <= 1500 := by
   have e9 : p.1 = jN ts := by
    unfold eq at hp
    split at hp
    ·cases hp; rfl
    ·cases hp
   rw [e9]
   exact gP dr.out
  clear h1 m1 hp he1
  go_wp2_with fail
  refine (cN eJ (by decide) (by decide) H1.out).mono ?_
  rintro e w2 ⟨⟨q2, fH, rfl, h2⟩ | ⟨fH, rfl⟩, m2⟩
  ·have H2 := aa h2
   have M2 := aa (M1.out.trans m2)
   have X2 := aa (af X1.out m2 (by omega))
   have qk := aa fH
   have iT := aQ fH
   have mY := ad X2.out
   clear h2 m2 fH
   go_wp2_with fail
   refine (HE.out w2 q2 H2.out (by omega)).mono ?_
   rintro e w3 ⟨m3, ⟨t3, q3, cs, hh, ho, rfl, hFx, h3, hh3, hT⟩ | ⟨ho, rfl⟩⟩
   ·have M3 := aa (M2.out.trans m3)
    have X3 := aa (af X2.out m3 (by omega))
    have HT := aa hT
    have H3 := aa h3
    have gy := m3.size
    have HO : Hid (lM ex ts = some (BF p.1 t3, q3)) := by
     unfold lM
     rw [jX.out]
     show (ar eJ p.2).bind _ = _
     rw [qk.out]
     show (ex q2).bind _ = _
     rw [ho]
     exact rfl
    have gB := aa hFx
    obtain ⟨i0, i1, i2, j1, k1, l1, j2, k2, l2, j3, k3, l3, rfl⟩ := hFx
    clear m3 h3 hT ho
    have x3 := X3.out
    obtain ⟨⟨y0, y1, y2, y3, y4, y5, y6⟩, f0, f1, f2, f3, f4, f5, f6⟩ := D5 x3
    have eP : w.heap.size < w3.heap.size := ad x3
    clear x3
    go_wp2
    refine bodyPost_ret (v := .agg #[.string p.1, .int .i64 i0, .string i1, .int .i64 i2, .slice j1 k1 l1, .slice j2 k2 l2, .slice j3 k3 l3]) ?_ rfl ?_
    ·exact results_cell_row rfl _ _ w.heap.size 201 _ (0, 0) _ rfl (sG X3.out _ _ _ _ _ _ _) Tryz.underlying201 rfl (by kernel_rfl)
    ·have hk := kW w3 w.heap.size (.string p.1) (.int .i64 i0) (.string i1) (.int .i64 i2) (.slice j1 k1 l1) (.slice j2 k2 l2) (.slice j3 k3 l3)
     refine ⟨Keeps.mvo M3.out hk U0, .inl ⟨_, q3, _, hh, HO.out, rfl, H3.out.other hk (by omega) (by omega), by omega, p.1, t3, _, rfl, rfl, gB.out, cI, ?_⟩⟩
     show TreeT (zs w3 w.heap.size (.string p.1) (.int .i64 i0) (.string i1) (.int .i64 i2) (.slice j1 k1 l1) (.slice j2 k2 l2) (.slice j3 k3 l3)) _ _ _ _ _ _
     refine (HT.out.keep fun k a1 a2 => hk.block k (by show _ ≠ _; omega)).up (by omega) (Nat.le_of_eq (mN ..).symm) U0
   ·have M3 := aa (M2.out.trans m3)
    have HO : Hid (lM ex ts = none) := by
     unfold lM
     rw [jX.out]
     show (ar eJ p.2).bind _ = _
     rw [qk.out]
     show (ex q2).bind _ = _
     rw [ho]
     exact rfl
    clear m3 ho
    unfold ey
    go_wp2
    exact ⟨rfl, M3.out, .inr ⟨HO.out, rfl⟩⟩
  ·have M2 := aa (M1.out.trans m2)
   have HO : Hid (lM ex ts = none) := by
    unfold lM
    rw [jX.out]
    show (ar eJ p.2).bind _ = _
    rw [fH]
    exact rfl
   clear m2 fH
   unfold ey
   go_wp2
   exact ⟨rfl, M2.out, .inr ⟨HO.out, rfl⟩⟩
 ·have M1 := aa ((Mv.of aq.out).trans m1)
  have HO : Hid (lM ex ts = none) := by
   unfold lM
   rw [hp]
   exact rfl
  clear m1 hp
  unfold ey
  go_wp2
  exact ⟨rfl, M1.out, .inr ⟨HO.out, rfl⟩⟩
end
theorem tF {ce : List Value} (o : Option Addr) (n c : Nat) (hf : Fx ce) (w : World) : Calls Tryz.prog 210 #[.agg ([Value.slice o n c] ++ ce).toArray] w (FN 6 ⟨#[]⟩ ce (.slice o n c) (.slice none 0 0) w) := by
 obtain ⟨a0, a1, a2, p1, q1, z1, p2, q2, z2, p3, q3, z3, rfl⟩ := hf
 go_enter Tryz.func210, Tryz.ntmps210
 go_wp2
 refine bodyPost_ret (v := .agg #[.int .i64 6, .string ⟨#[]⟩, .int .i64 0, .slice (some ⟨w.heap.size + 1 + 1, 0, none⟩) 1 1, .slice o n c, .slice none 0 0]) ?_ rfl ?_
 ·refine results_cell_row rfl _ _ (w.heap.size + 1) 34 _ (0, 0) _ rfl (cT ?_) Tryz.underlying34 rfl (by kernel_rfl)
  have h9 := heap_alloc_new (w.alloc (.cells #[.slice o n c, .int .i64 a0, .string a1, .int .i64 a2, .slice p1 q1 z1, .slice p2 q2 z2, .slice p3 q3 z3] 203)) (.cells #[.int .i64 6, .string ⟨#[]⟩, .int .i64 0, .slice (some ⟨w.heap.size + 1 + 1, 0, none⟩) 1 1, .slice o n c, .slice none 0 0] 34)
  simpa using h9
 ·refine ⟨w.heap.size + 1 + 1, by omega, by simp, rfl, ?_, (((U4 w).alloc U0 _).alloc (by simp) _).alloc (by simp; omega) _⟩
  have h9 := heap_alloc_new ((w.alloc (.cells #[.slice o n c, .int .i64 a0, .string a1, .int .i64 a2, .slice p1 q1 z1, .slice p2 q2 z2, .slice p3 q3 z3] 203)).alloc (.cells #[.int .i64 6, .string ⟨#[]⟩, .int .i64 0, .slice (some ⟨w.heap.size + 1 + 1, 0, none⟩) 1 1, .slice o n c, .slice none 0 0] 34)) (.cells #[.int .i64 a0, .string a1, .int .i64 a2, .slice p1 q1 z1, .slice p2 q2 z2, .slice p3 q3 z3] 34)
  simpa using h9
section
variable {b g d : Nat} {w : World} {ts : List TokZ}
def MJ (s0 : Nat) (t : Tr) (cs : List Value) (w' : World) (h : Nat) : Prop := ∃ ds e o n c ce u, t = Bn ds e /\ cs = [Value.slice o n c] ++ ce /\ Fx ce /\ s0 <= u /\ u <= w'.heap.size /\ RowT w' s0 u h 1 (.slice o n c) ds /\ TreeT w' u w'.heap.size h 0 e ce
theorem zJ {ex de : bF} {n : Nat} (h : Ir b g w d ts) (hn : ts.length <= n + 1) (hE : CI b g d n ex) (hP : Ja b g d n de) (hD : bC de) : Calls Tryz.prog 209 #[.pointer (some ⟨b, 0, none⟩)] w (Ae b g d w ts (lT ex de ts) (MJ (w.heap.size + 1))) := by
 have au := h.lt
 have ec := h.glt
 have HE := aa hE
 have HP := aa hP
 have HD := aa hD
 have dr := aa h.ends
 have aq : Hid (Below w.heap.size w (w.alloc (.cells #[.slice none 0 0, .int .i64 0, .string ⟨#[]⟩, .int .i64 0, .slice none 0 0, .slice none 0 0, .slice none 0 0] 203))) := (U4 w).alloc U0 _
 have H0 := aa (h.below aq.out)
 have HX : Hid ((w.alloc (.cells #[.slice none 0 0, .int .i64 0, .string ⟨#[]⟩, .int .i64 0, .slice none 0 0, .slice none 0 0, .slice none 0 0] 203)).heap[w.heap.size]? = some (.cells #[.slice none 0 0, .int .i64 0, .string ⟨#[]⟩, .int .i64 0, .slice none 0 0, .slice none 0 0, .slice none 0 0] 203 (0, 0))) := heap_alloc_new w _
 clear h hE hP hD
 go_enter Tryz.func209, Tryz.ntmps209
 go_wp2_with fail
 refine (lz H0.out hn HP.out HD.out).mono ?_
 rintro e w1 ⟨m1, ⟨l1, q1, o1, n1, c1, h1, lq, rfl, hI1, hh1, hR1⟩ | ⟨lq, rfl⟩⟩
 ·have H1 := aa hI1
  have M1 := aa ((Mv.of aq.out).trans m1)
  have X1 := aa (af HX.out m1 (by omega))
  have jX := aa lq
  have R1 := aa hR1
  have nZ := ad X1.out
  have fB := (gk HD.out dr.out lq).2
  clear hI1 m1 lq hR1
  go_wp2_with fail
  refine (cN sK (by decide) (by decide) H1.out).mono ?_
  rintro e w2 ⟨⟨q2, fH, rfl, h2⟩ | ⟨fH, rfl⟩, m2⟩
  ·have H2 := aa h2
   have M2 := aa (M1.out.trans m2)
   have X2 := aa (af X1.out m2 (by omega))
   have qk := aa fH
   have EH := aa m2
   have iT := aQ fH
   have iM := m2.size
   clear h2 m2 fH
   go_wp2_with fail
   refine (HE.out w2 q2 H2.out (by omega)).mono ?_
   rintro e w3 ⟨m3, ⟨t3, q3, cs, hh, ho, rfl, hFx, h3, hh3, hT⟩ | ⟨ho, rfl⟩⟩
   ·have M3 := aa (M2.out.trans m3)
    have iU := aa (EH.out.trans m3)
    have X3 := aa (af X2.out m3 (by omega))
    have HT := aa hT
    have H3 := aa h3
    have gy := m3.size
    have HO : Hid (lT ex de ts = some (Bn l1 t3, q3)) := by
     unfold lT
     rw [jX.out]
     show (ar sK q1).bind _ = _
     rw [qk.out]
     show (ex q2).bind _ = _
     rw [ho]
     exact rfl
    have gB := aa hFx
    obtain ⟨i0, i1, i2, j1, k1, l1', j2, k2, l2, j3, k3, l3, rfl⟩ := hFx
    clear m3 h3 hT ho
    have x3 := X3.out
    obtain ⟨⟨y0, y1, y2, y3, y4, y5, y6⟩, f0, f1, f2, f3, f4, f5, f6⟩ := D5 x3
    have eP : w.heap.size < w3.heap.size := ad x3
    clear x3
    go_wp2
    refine bodyPost_ret (v := .agg #[.slice o1 n1 c1, .int .i64 i0, .string i1, .int .i64 i2, .slice j1 k1 l1', .slice j2 k2 l2, .slice j3 k3 l3]) ?_ rfl ?_
    ·exact results_cell_row rfl _ _ w.heap.size 203 _ (0, 0) _ rfl (sG X3.out _ _ _ _ _ _ _) Tryz.underlying203 rfl (by kernel_rfl)
    ·have hk := kW w3 w.heap.size (.slice o1 n1 c1) (.int .i64 i0) (.string i1) (.int .i64 i2) (.slice j1 k1 l1') (.slice j2 k2 l2) (.slice j3 k3 l3)
     have cI := mN w3 w.heap.size (.slice o1 n1 c1) (.int .i64 i0) (.string i1) (.int .i64 i2) (.slice j1 k1 l1') (.slice j2 k2 l2) (.slice j3 k3 l3)
     have SK : RowT w3 (w.heap.size + 1) w1.heap.size h1 1 (.slice o1 n1 c1) l1 := by
      refine (R1.out.keep fun k a1 a2 => iU.out.block k ⟨a2, ?_⟩).up (by simp) U0 U0
      have : w.heap.size + 1 <= k := by simpa using a1
      omega
     refine ⟨Keeps.mvo M3.out hk U0, .inl ⟨_, q3, _, max h1 hh, HO.out, rfl, H3.out.other hk (by omega) (by omega), by omega, l1, t3, o1, n1, c1, _, w1.heap.size, rfl, rfl, gB.out, by omega, ?_, ?_, ?_⟩⟩
     ·show _ <= (zs w3 w.heap.size (.slice o1 n1 c1) (.int .i64 i0) (.string i1) (.int .i64 i2) (.slice j1 k1 l1') (.slice j2 k2 l2) (.slice j3 k3 l3)).heap.size
      omega
     ·exact (SK.keep fun k a1 a2 => hk.block k (by show _ ≠ _; omega)).up U0 U0 (by omega)
     ·show TreeT (zs w3 w.heap.size (.slice o1 n1 c1) (.int .i64 i0) (.string i1) (.int .i64 i2) (.slice j1 k1 l1') (.slice j2 k2 l2) (.slice j3 k3 l3)) _ _ _ _ _ _
      exact (HT.out.keep fun k a1 a2 => hk.block k (by show _ ≠ _; omega)).up (by omega) (Nat.le_of_eq cI.symm) (by omega)
   ·have M3 := aa (M2.out.trans m3)
    have HO : Hid (lT ex de ts = none) := by
     unfold lT
     rw [jX.out]
     show (ar sK q1).bind _ = _
     rw [qk.out]
     show (ex q2).bind _ = _
     rw [ho]
     exact rfl
    clear m3 ho
    unfold ey
    go_wp2
    exact ⟨rfl, M3.out, .inr ⟨HO.out, rfl⟩⟩
  ·have M2 := aa (M1.out.trans m2)
   have HO : Hid (lT ex de ts = none) := by
    unfold lT
    rw [jX.out]
    show (ar sK q1).bind _ = _
    rw [fH]
    exact rfl
   clear m2 fH
   unfold ey
   go_wp2
   exact ⟨rfl, M2.out, .inr ⟨HO.out, rfl⟩⟩
 ·have M1 := aa ((Mv.of aq.out).trans m1)
  have HO : Hid (lT ex de ts = none) := by
   unfold lT
   rw [lq]
   exact rfl
  clear m1 lq
  unfold ey
  go_wp2
  exact ⟨rfl, M1.out, .inr ⟨HO.out, rfl⟩⟩
end
theorem sw {ce : List Value} (o : Option Addr) (n c : Nat) (hf : Fx ce) (w : World) : Calls Tryz.prog 212 #[.agg (ce ++ [Value.slice o n c]).toArray] w (FN 7 ⟨#[]⟩ ce (.slice none 0 0) (.slice o n c) w) := by
 obtain ⟨a0, a1, a2, p1, q1, z1, p2, q2, z2, p3, q3, z3, rfl⟩ := hf
 go_enter Tryz.func212, Tryz.ntmps212
 go_wp2
 refine bodyPost_ret (v := .agg #[.int .i64 7, .string ⟨#[]⟩, .int .i64 0, .slice (some ⟨w.heap.size + 1 + 1, 0, none⟩) 1 1, .slice none 0 0, .slice o n c]) ?_ rfl ?_
 ·refine results_cell_row rfl _ _ (w.heap.size + 1) 34 _ (0, 0) _ rfl (cT ?_) Tryz.underlying34 rfl (by kernel_rfl)
  have h9 := heap_alloc_new (w.alloc (.cells #[.int .i64 a0, .string a1, .int .i64 a2, .slice p1 q1 z1, .slice p2 q2 z2, .slice p3 q3 z3, .slice o n c] 205)) (.cells #[.int .i64 7, .string ⟨#[]⟩, .int .i64 0, .slice (some ⟨w.heap.size + 1 + 1, 0, none⟩) 1 1, .slice none 0 0, .slice o n c] 34)
  simpa using h9
 ·refine ⟨w.heap.size + 1 + 1, by omega, by simp, rfl, ?_, (((U4 w).alloc U0 _).alloc (by simp) _).alloc (by simp; omega) _⟩
  have h9 := heap_alloc_new ((w.alloc (.cells #[.int .i64 a0, .string a1, .int .i64 a2, .slice p1 q1 z1, .slice p2 q2 z2, .slice p3 q3 z3, .slice o n c] 205)).alloc (.cells #[.int .i64 7, .string ⟨#[]⟩, .int .i64 0, .slice (some ⟨w.heap.size + 1 + 1, 0, none⟩) 1 1, .slice none 0 0, .slice o n c] 34)) (.cells #[.int .i64 a0, .string a1, .int .i64 a2, .slice p1 q1 z1, .slice p2 q2 z2, .slice p3 q3 z3] 34)
  simpa using h9
section
variable {b g d : Nat} {w : World} {ts : List TokZ}
def JG (s0 : Nat) (t : Tr) (cs : List Value) (w' : World) (h : Nat) : Prop := ∃ e al ce o n c u, t = rO e al /\ cs = ce ++ [Value.slice o n c] /\ Fx ce /\ s0 <= u /\ u <= w'.heap.size /\ TreeT w' s0 u h 0 e ce /\ RowT w' u w'.heap.size h 2 (.slice o n c) al
theorem yF {ex : bF} {n : Nat} (h : Ir b g w d ts) (hn : ts.length <= n) (hE : CI b g d n ex) (hP : Lw b g d n (ff ex)) (hX : bC ex) : Calls Tryz.prog 211 #[.pointer (some ⟨b, 0, none⟩)] w (Ae b g d w ts (ft ex ts) (JG (w.heap.size + 1))) := by
 have au := h.lt
 have ec := h.glt
 have HE := aa hE
 have HP := aa hP
 have HD := aa hX
 have dr := aa h.ends
 have aq : Hid (Below w.heap.size w (w.alloc (.cells #[.int .i64 0, .string ⟨#[]⟩, .int .i64 0, .slice none 0 0, .slice none 0 0, .slice none 0 0, .slice none 0 0] 205))) := (U4 w).alloc U0 _
 have H0 := aa (h.below aq.out)
 have HX : Hid ((w.alloc (.cells #[.int .i64 0, .string ⟨#[]⟩, .int .i64 0, .slice none 0 0, .slice none 0 0, .slice none 0 0, .slice none 0 0] 205)).heap[w.heap.size]? = some (.cells #[.int .i64 0, .string ⟨#[]⟩, .int .i64 0, .slice none 0 0, .slice none 0 0, .slice none 0 0, .slice none 0 0] 205 (0, 0))) := heap_alloc_new w _
 clear h hE hP hX
 go_enter Tryz.func211, Tryz.ntmps211
 go_wp2_with fail
 refine (HE.out _ ts H0.out hn).mono ?_
 rintro e w1 ⟨m1, ⟨t1, q1, cs, h1, lq, rfl, hFx, hI1, hh1, Fy⟩ | ⟨lq, rfl⟩⟩
 ·have H1 := aa hI1
  have M1 := aa ((Mv.of aq.out).trans m1)
  have X1 := aa (af HX.out m1 (by omega))
  have jX := aa lq
  have T1 := aa Fy
  have nZ := ad X1.out
  have fB := (HD.out ts t1 q1 dr.out lq).2
  have gB := aa hFx
  obtain ⟨i0, i1, i2, j1, k1, l1, j2, k2, l2, j3, k3, l3, rfl⟩ := hFx
  have B1 : Hid (Below w1.heap.size w1 (w1.alloc (.cells #[.int .i64 i0, .string i1, .int .i64 i2, .slice j1 k1 l1, .slice j2 k2 l2, .slice j3 k3 l3] 34))) := (U4 w1).alloc U0 _
  have KM := aa (H1.out.below B1.out)
  have FB := aa (M1.out.trans (Mv.of (b := b) B1.out))
  have Ix := aa (af X1.out (Mv.of (b := b) B1.out) (by omega))
  have Y1 : Hid ((w1.alloc (.cells #[.int .i64 i0, .string i1, .int .i64 i2, .slice j1 k1 l1, .slice j2 k2 l2, .slice j3 k3 l3] 34)).heap[w1.heap.size]? = some (.cells #[.int .i64 i0, .string i1, .int .i64 i2, .slice j1 k1 l1, .slice j2 k2 l2, .slice j3 k3 l3] 34 (0, 0))) := heap_alloc_new w1 _
  have OG := ad Ix.out
  have O0 := ad Y1.out
  have IC := H1.out.lt
  clear hI1 m1 lq Fy
  go_wp2_with fail
  refine (cN qt (by decide) (by decide) KM.out).mono ?_
  rintro e w2 ⟨⟨q2, fH, rfl, h2⟩ | ⟨fH, rfl⟩, m2⟩
  ·have H2 := aa h2
   have M2 := aa (FB.out.trans m2)
   have X2 := aa (af Ix.out m2 (by omega))
   have qk := aa fH
   have EH := aa ((Mv.of (b := b) B1.out).trans m2)
   have Y2 := aa (af Y1.out m2 (by omega))
   have iT := aQ fH
   have iM := EH.out.size
   have mY := ad X2.out
   have wI := ad Y2.out
   clear h2 m2 fH
   have SM := aa (H2.out.below (U4 w2).drew)
   have L1 := aa (M2.out.trans (Mv.drew b w2))
   have La := aa (EH.out.trans (Mv.drew b w2))
   have ND := aa (af X2.out (Mv.drew b w2) (by omega))
   have L8 := aa (af Y2.out (Mv.drew b w2) (by omega))
   have y2 := L8.out
   obtain ⟨⟨t0, t1', t2, t3, t4, t5⟩, -⟩ := aG y2
   have Ub := ad ND.out
   have SZ := ad L8.out
   have Sa : w2.drew.heap.size = w2.heap.size := rfl
   have n6 := aa (qr SM.out (n := n) (by omega) HP.out (nm HD.out))
   clear y2
   go_upto_region 3 with fail
   refine wp_region_any (by kernel_rfl) ?_
   try (change wpAny _ _ _ _ _ _ _ (World.drew _))
   refine wpAny_take (i := 1) (v := .pointer (some ⟨b, 0, none⟩)) rfl (by kernel_rfl) (by kernel_rfl) (by kernel_rfl) (fun _ _ _ h => h) (Or.inl ⟨by rfl, fun w => by go_simp⟩) ?_
   refine wpAny_take (i := 2) (v := .pointer (some ⟨b, 0, none⟩)) rfl (by kernel_rfl) (by kernel_rfl) (by kernel_rfl) (fun _ _ _ h => h) (Or.inl ⟨by rfl, fun w => by go_simp⟩) ?_
   refine wpAny_take (i := 3) (v := .func (.func 266) #[.pointer (some ⟨b, 0, none⟩)] #[]) rfl (by kernel_rfl) (by kernel_rfl) (by kernel_rfl) (fun _ _ _ h => h) (Or.inl ⟨by rfl, fun w => by go_simp⟩) ?_
   refine wpAny_ready (rs := [0, 4]) (by kernel_rfl) (by simp) ?_
   refine AllReady.cons rfl (fun K hK => ?_) (AllReady.cons rfl (fun K hK => ?_) AllReady.nil)
   ·go_simp
    refine hK _ _ ?_
    clear hK K
    refine wpAny_ready (rs := [4]) (by kernel_rfl) (by simp) ?_
    refine AllReady.cons rfl (fun K hK => ?_) AllReady.nil
    go_simp
    (with_reducible refine Calls.mono n6.out ?_)
    rintro e w3 ⟨m3, ⟨l9, q3, o3, n3, c3, hh, ho, rfl, h3, hh3, hR⟩ | ⟨ho, rfl⟩⟩
    ·refine hK _ _ ?_
     clear hK K
     have M3 := aa (L1.out.trans m3)
     have iU := aa (La.out.trans m3)
     have X3 := aa (af ND.out m3 (by omega))
     have Y3 := aa (af L8.out m3 (by omega))
     have HR := aa hR
     have H3 := aa h3
     have gy := m3.size
     have HO : Hid (ft ex ts = some (rO t1 l9, q3)) := by
      unfold ft
      rw [jX.out]
      show (ar qt q1).bind _ = _
      rw [qk.out]
      show (aP (ff ex) q2).bind _ = _
      rw [ho]
      exact rfl
     clear m3 h3 hR ho
     have x3 := X3.out
     obtain ⟨⟨y0, y1, y2, y3, y4, y5, y6⟩, f0, f1, f2, f3, f4, f5, f6⟩ := D5 x3
     have eP : w.heap.size < w3.heap.size := ad x3
     clear x3
     have y3 := Y3.out
     obtain ⟨⟨u0, u1, u2, u3, u4, u5⟩, -⟩ := aG y3
     clear y3
     refine wpAny_ready (rs := [5]) (by kernel_rfl) (by simp) ?_
     refine AllReady.cons rfl (fun K hK => ?_) AllReady.nil
     go_simp
     refine hK _ _ ?_
     clear hK K
     refine wpAny_ready (rs := [6]) (by kernel_rfl) (by simp) ?_
     refine AllReady.cons rfl (fun K hK => ?_) AllReady.nil
     go_simp
     refine hK _ _ ?_
     clear hK K
     refine wpAny_done (by kernel_rfl) ?_ _
     go_wp2
     refine bodyPost_ret (v := .agg #[.int .i64 i0, .string i1, .int .i64 i2, .slice j1 k1 l1, .slice j2 k2 l2, .slice j3 k3 l3, .slice o3 n3 c3]) ?_ rfl ?_
     ·exact results_cell_row rfl _ _ w.heap.size 205 _ (0, 0) _ rfl (sG X3.out _ _ _ _ _ _ _) Tryz.underlying205 rfl (by kernel_rfl)
     ·have hk := kW w3 w.heap.size (.int .i64 i0) (.string i1) (.int .i64 i2) (.slice j1 k1 l1) (.slice j2 k2 l2) (.slice j3 k3 l3) (.slice o3 n3 c3)
      have cI := mN w3 w.heap.size (.int .i64 i0) (.string i1) (.int .i64 i2) (.slice j1 k1 l1) (.slice j2 k2 l2) (.slice j3 k3 l3) (.slice o3 n3 c3)
      have Jv : TreeT w3 (w.heap.size + 1) w1.heap.size h1 0 t1 [.int .i64 i0, .string i1, .int .i64 i2, .slice j1 k1 l1, .slice j2 k2 l2, .slice j3 k3 l3] := by
       refine (T1.out.keep fun k a1 a2 => iU.out.block k ⟨a2, ?_⟩).up (by simp) U0 U0
       have : w.heap.size + 1 <= k := by simpa using a1
       omega
      refine ⟨Keeps.mvo M3.out hk U0, .inl ⟨_, q3, _, max h1 hh, HO.out, rfl, H3.out.other hk (by omega) (by omega), by omega, t1, l9, _, o3, n3, c3, w1.heap.size, rfl, rfl, gB.out, by omega, ?_, ?_, ?_⟩⟩
      ·show _ <= (zs w3 w.heap.size (.int .i64 i0) (.string i1) (.int .i64 i2) (.slice j1 k1 l1) (.slice j2 k2 l2) (.slice j3 k3 l3) (.slice o3 n3 c3)).heap.size
       omega
      ·exact (Jv.keep fun k a1 a2 => hk.block k (by show _ ≠ _; omega)).up U0 U0 (by omega)
      ·show RowT (zs w3 w.heap.size (.int .i64 i0) (.string i1) (.int .i64 i2) (.slice j1 k1 l1) (.slice j2 k2 l2) (.slice j3 k3 l3) (.slice o3 n3 c3)) _ _ _ _ _ _
       exact (HR.out.keep fun k a1 a2 => hk.block k (by show _ ≠ _; omega)).up (by omega) (Nat.le_of_eq cI.symm) (by omega)
    ·have M3 := aa (L1.out.trans m3)
     have HO : Hid (ft ex ts = none) := by
      unfold ft
      rw [jX.out]
      show (ar qt q1).bind _ = _
      rw [qk.out]
      show (aP (ff ex) q2).bind _ = _
      rw [ho]
      exact rfl
     exact ⟨rfl, M3.out, .inr ⟨HO.out, rfl⟩⟩
   ·go_simp
    (with_reducible refine Calls.mono n6.out ?_)
    rintro e w3 ⟨m3, ⟨l9, q3, o3, n3, c3, hh, ho, rfl, h3, hh3, hR⟩ | ⟨ho, rfl⟩⟩
    ·refine hK _ _ ?_
     clear hK K
     have M3 := aa (L1.out.trans m3)
     have iU := aa (La.out.trans m3)
     have X3 := aa (af ND.out m3 (by omega))
     have Y3 := aa (af L8.out m3 (by omega))
     have HR := aa hR
     have H3 := aa h3
     have gy := m3.size
     have HO : Hid (ft ex ts = some (rO t1 l9, q3)) := by
      unfold ft
      rw [jX.out]
      show (ar qt q1).bind _ = _
      rw [qk.out]
      show (aP (ff ex) q2).bind _ = _
      rw [ho]
      exact rfl
     clear m3 h3 hR ho
     have x3 := X3.out
     obtain ⟨⟨y0, y1, y2, y3, y4, y5, y6⟩, f0, f1, f2, f3, f4, f5, f6⟩ := D5 x3
     have eP : w.heap.size < w3.heap.size := ad x3
     clear x3
     have y3 := Y3.out
     obtain ⟨⟨u0, u1, u2, u3, u4, u5⟩, -⟩ := aG y3
     clear y3
     refine wpAny_ready (rs := [0]) (by kernel_rfl) (by simp) ?_
     refine AllReady.cons rfl (fun K hK => ?_) AllReady.nil
     go_simp
     refine hK _ _ ?_
     clear hK K
     refine wpAny_ready (rs := [5]) (by kernel_rfl) (by simp) ?_
     refine AllReady.cons rfl (fun K hK => ?_) AllReady.nil
     go_simp
     refine hK _ _ ?_
     clear hK K
     refine wpAny_ready (rs := [6]) (by kernel_rfl) (by simp) ?_
     refine AllReady.cons rfl (fun K hK => ?_) AllReady.nil
     go_simp
     refine hK _ _ ?_
     clear hK K
     refine wpAny_done (by kernel_rfl) ?_ _
     go_wp2
     refine bodyPost_ret (v := .agg #[.int .i64 i0, .string i1, .int .i64 i2, .slice j1 k1 l1, .slice j2 k2 l2, .slice j3 k3 l3, .slice o3 n3 c3]) ?_ rfl ?_
     ·exact results_cell_row rfl _ _ w.heap.size 205 _ (0, 0) _ rfl (sG X3.out _ _ _ _ _ _ _) Tryz.underlying205 rfl (by kernel_rfl)
     ·have hk := kW w3 w.heap.size (.int .i64 i0) (.string i1) (.int .i64 i2) (.slice j1 k1 l1) (.slice j2 k2 l2) (.slice j3 k3 l3) (.slice o3 n3 c3)
      have cI := mN w3 w.heap.size (.int .i64 i0) (.string i1) (.int .i64 i2) (.slice j1 k1 l1) (.slice j2 k2 l2) (.slice j3 k3 l3) (.slice o3 n3 c3)
      have Jv : TreeT w3 (w.heap.size + 1) w1.heap.size h1 0 t1 [.int .i64 i0, .string i1, .int .i64 i2, .slice j1 k1 l1, .slice j2 k2 l2, .slice j3 k3 l3] := by
       refine (T1.out.keep fun k a1 a2 => iU.out.block k ⟨a2, ?_⟩).up (by simp) U0 U0
       have : w.heap.size + 1 <= k := by simpa using a1
       omega
      refine ⟨Keeps.mvo M3.out hk U0, .inl ⟨_, q3, _, max h1 hh, HO.out, rfl, H3.out.other hk (by omega) (by omega), by omega, t1, l9, _, o3, n3, c3, w1.heap.size, rfl, rfl, gB.out, by omega, ?_, ?_, ?_⟩⟩
      ·show _ <= (zs w3 w.heap.size (.int .i64 i0) (.string i1) (.int .i64 i2) (.slice j1 k1 l1) (.slice j2 k2 l2) (.slice j3 k3 l3) (.slice o3 n3 c3)).heap.size
       omega
      ·exact (Jv.keep fun k a1 a2 => hk.block k (by show _ ≠ _; omega)).up U0 U0 (by omega)
      ·show RowT (zs w3 w.heap.size (.int .i64 i0) (.string i1) (.int .i64 i2) (.slice j1 k1 l1) (.slice j2 k2 l2) (.slice j3 k3 l3) (.slice o3 n3 c3)) _ _ _ _ _ _
       exact (HR.out.keep fun k a1 a2 => hk.block k (by show _ ≠ _; omega)).up (by omega) (Nat.le_of_eq cI.symm) (by omega)
    ·have M3 := aa (L1.out.trans m3)
     have HO : Hid (ft ex ts = none) := by
      unfold ft
      rw [jX.out]
      show (ar qt q1).bind _ = _
      rw [qk.out]
      show (aP (ff ex) q2).bind _ = _
      rw [ho]
      exact rfl
     exact ⟨rfl, M3.out, .inr ⟨HO.out, rfl⟩⟩
  ·have M2 := aa (FB.out.trans m2)
   have HO : Hid (ft ex ts = none) := by
    unfold ft
    rw [jX.out]
    show (ar qt q1).bind _ = _
    rw [fH]
    exact rfl
   clear m2 fH
   unfold ey
   go_wp2
   exact ⟨rfl, M2.out, .inr ⟨HO.out, rfl⟩⟩
 ·have M1 := aa ((Mv.of aq.out).trans m1)
  have HO : Hid (ft ex ts = none) := by
   unfold ft
   rw [lq]
   exact rfl
  clear m1 lq
  unfold ey
  go_wp2
  exact ⟨rfl, M1.out, .inr ⟨HO.out, rfl⟩⟩
end
end Go.Proofs.YtfomndilhlgikajGreatDoor.Rd
