import Derived.Test.YtfomndilhlgikajGreatDoorP48
import Derived.Deep.RegionLaw
import Derived.WalkSmall
import Derived.Test.YtfomndilhlgikajGreatDoorP14
import Derived.Deep.DeepCutAuto
import Derived.Deep.CutBlock
set_option maxHeartbeats 8000000
set_option maxRecDepth 100000
namespace Go.Proofs.YtfomndilhlgikajGreatDoor.Rd
open Go.ChangeShapes Go.WideShapes Go.ChangeAt Go.RowKit
section
variable {b g d : Nat} {w : World} {ts : List TokZ}
theorem uu (h : Ir b g w d ts) : Calls Tryz.prog 84 #[.pointer (some ⟨b, 0, none⟩), .int .i64 6] w fun e w' => Mv b w w' /\ ((isK ts 6 = true /\ ∃ t, e = .returned (.string t)) \/ (isK ts 6 = false /\ e = ey)) := by
 have H0 := aa h
 have au := h.lt
 go_enter Tryz.func84, Tryz.ntmps84
 go_wp2_with fail
 refine (bL 6 H0.out).mono ?_
 rintro e w1 ⟨rfl, rfl⟩
 cases hk : isK ts 6 with
 | false =>
  have HK := aa hk
  clear hk
  go_wp2_with fail
  refine (cX b _).mono ?_
  rintro e w2 ⟨rfl, rfl⟩
  unfold ey
  go_wp2
  exact ⟨rfl, Mv.refl _ _, .inr ⟨HK.out, rfl⟩⟩
 | true =>
  have HK := aa hk
  clear hk
  go_wp2_with fail
  refine (dt b _).mono ?_
  rintro e w2 ⟨rfl, rfl⟩
  obtain ⟨off, cap, t, q, rfl, hb, ⟨t0, t1, t2, t3⟩, hq, uU, hl, hc, aC⟩ := H0.out.head
  have x0 := cell_of hb 0
  have xf := aj hb 0
  simp only [List.getElem?_toArray, List.getElem?_cons_zero] at x0
  clear h hb hq aC t0 t2 t3
  go_wp2
  all_goals
   go_ret
   exact ⟨Mv.set b 0 _ _, .inl ⟨HK.out, _, rfl⟩⟩
end
def vl (t : Tr) : Bool := (bJ 900).ex t 1 && decide ((aW 900).ex t <= 200)
def ch (s : ByteArray) : Option Tr := if eh s = true then (onlyP ((ps 900).ex 0) (signs s)).bind fun p => if isK p.2 6 && vl p.1 then some p.1 else none else none
def rL : Tr := ⟨0, sNil, 0, [], [], [], []⟩
def tR (s : ByteArray) : Tr := (ch s).getD rL
def vL (s : ByteArray) (w : World) (e : Ending) (w' : World) : Prop := ∃ cs, e = .returned (.tuple #[.agg cs.toArray, .bool (ch s).isSome]) /\ Fx cs /\ TreeT w' w.heap.size w'.heap.size 900 0 (tR s) cs /\ Below w.heap.size w w'
section
variable {w : World}
theorem oD {s : ByteArray} {W w9 : World} (hB : Below w.heap.size w W) (hK : Keeps (fun k => k < W.heap.size /\ k ≠ w.heap.size /\ k ≠ w.heap.size + 1) W w9) (hP : ch s = none) : vL s w (.returned (.tuple #[.agg #[.int .i64 0, .string ⟨#[]⟩, .int .i64 0, .slice none 0 0, .slice none 0 0, .slice none 0 0], .bool false])) w9 := by
 have hs := hB.size
 have CK := hK.size
 refine ⟨[.int .i64 0, .string ⟨#[]⟩, .int .i64 0, .slice none 0 0, .slice none 0 0, .slice none 0 0], by rw [hP]; rfl, ⟨_, _, _, _, _, _, _, _, _, _, _, _, rfl⟩, ?_, ?_⟩
 ·have e : tR s = rL := by unfold tR; rw [hP]; rfl
  rw [e]
  exact (kR w9 w.heap.size w9.heap.size 0 sNil (by decide) 0 (by omega)).up U0 U0 (by omega)
 ·exact hB.trans ⟨hK.os, hK.tape, hK.output, hK.size, fun k hk => hK.block k ⟨by omega, by omega, by omega⟩⟩
theorem yi (s : ByteArray) (hs : s.size <= maxLen) : Calls Tryz.prog 44 #[.string s, .func (.func 45) #[] #[], .func (.func 46) #[] #[]] w (vL s w) := by
 have Py : ∀ (fn : Fn) (first cap : Array Value) (w : World), (Instr.makeFunc fn first cap).run Tryz.prog w = .ok (.func fn first cap) w := fun _ _ _ _ => rfl
 generalize hV : (w.alloc (.cells #[.int .i64 0, .string ⟨#[]⟩, .int .i64 0, .slice none 0 0, .slice none 0 0, .slice none 0 0] 34)).alloc (.cells #[.bool false] 4) = V
 have FC : V.heap.size = w.heap.size + 2 := by rw [<- hV]; simp
 have B0 : Hid (Below w.heap.size w V) := by rw [<- hV]; exact ((U4 w).alloc U0 _).alloc (by simp) _
 have A0 : Hid (V.heap[w.heap.size]? = some (.cells #[.int .i64 0, .string ⟨#[]⟩, .int .i64 0, .slice none 0 0, .slice none 0 0, .slice none 0 0] 34 (0, 0))) := by rw [<- hV]; exact (Below.heap_alloc _ _ _ (by simp)).trans (heap_alloc_new w _)
 have C0 : Hid (V.heap[w.heap.size + 1]? = some (.cells #[.bool false] 4 (0, 0))) := by rw [<- hV]; exact heap_alloc2_new w _ _
 have HR := aa (sE (w := V) s hs)
 have SN := aa FC
 clear FC
 go_enter_defers Tryz.func44, Tryz.ntmps44
 go_wp2_with fail
 refine HR.out.mono ?_
 rintro e w1 ⟨bS, ⟨rZ, b, g, rfl, ay, ec, hI⟩ | ⟨rZ, rfl⟩⟩
 case inr =>
  have HP : Hid (ch s = none) := by unfold ch; rw [rZ]; exact rfl
  have B1 := aa (B0.out.trans (bS.mono B0.out.size))
  have A1 := aa ((bS.block w.heap.size (ad A0.out)).trans A0.out)
  have C1 := aa ((bS.block (w.heap.size + 1) (ad C0.out)).trans C0.out)
  clear bS rZ HR
  unfold ey
  go_wp2
  refine leaves_cons (f := 98) (args := #[.pointer (some ⟨w.heap.size, 0, none⟩), .pointer (some ⟨w.heap.size + 1, 0, none⟩)]) (by simp) (by simp [go_sem]) ?_
  refine (eS w.heap.size (w.heap.size + 1) _ _ [] w1 A1.out C1.out (by omega)).mono ?_
  rintro e u' w9 ⟨rfl, rfl, hA9, hC9, hK9⟩
  have HF := aa (oD B1.out hK9 HP.out)
  have r0 := cell_of hA9 0
  have r1 := cell_of hA9 1
  have r2 := cell_of hA9 2
  have r3 := cell_of hA9 3
  have r4 := cell_of hA9 4
  have r5 := cell_of hA9 5
  have r6 := cell_of hC9 0
  unfold zE at r0 r1 r2 r3 r4 r5
  simp only [U7, U8, U9] at r0 r1 r2 r3 r4 r5 r6
  clear hA9 hC9 hK9
  simp [Leaves, settle, results, Tryz.results44, go_sem, r0, r1, r2, r3, r4, r5, r6]
  exact HF.out
 have cI := SN.out
 have B1 := aa (B0.out.trans (bS.mono B0.out.size))
 have A1 := aa ((bS.block w.heap.size (ad A0.out)).trans A0.out)
 have C1 := aa ((bS.block (w.heap.size + 1) (ad C0.out)).trans C0.out)
 have H1 := aa hI
 have TH := hI.lt
 have Sx := hI.glt
 have vu := bS.size
 have PJ : Hid (dP s.data.toList = true /\ cS ((cu s.data.toList).map rn) = true) := by
  have h9 := rZ
  unfold eh at h9
  rw [Bool.and_eq_true] at h9
  exact h9
 have Jm := (jw PJ.out.1 PJ.out.2).2
 have vx := aa rZ
 clear bS rZ hI HR hV
 generalize ot : signs s = q0 at H1 Jm
 have DD := aa ot
 clear ot
 go_wp2_with fail
 refine (yQ (n := 900) H1.out (by omega) (Ej MN b g 900 0).1).mono ?_
 rintro e w2 ⟨m2, ⟨t2, q2, cs, hh, ho, rfl, hFx, h2, hh2, hT⟩ | ⟨ho, rfl⟩⟩
 case inr =>
  have HP : Hid (ch s = none) := by
   unfold ch
   rw [if_pos vx.out, DD.out, ho]
   exact rfl
  have B2 := aa (B1.out.trans (m2.below (s := w.heap.size) (by omega) (by omega)))
  have A2 := aa (af A1.out m2 (by omega))
  have C2 := aa (af C1.out m2 (by omega))
  clear m2 ho
  unfold ey
  go_wp2
  refine leaves_cons (f := 98) (args := #[.pointer (some ⟨w.heap.size, 0, none⟩), .pointer (some ⟨w.heap.size + 1, 0, none⟩)]) (by simp) (by simp [go_sem]) ?_
  refine (eS w.heap.size (w.heap.size + 1) _ _ [] w2 A2.out C2.out (by omega)).mono ?_
  rintro e u' w9 ⟨rfl, rfl, hA9, hC9, hK9⟩
  have HF := aa (oD B2.out hK9 HP.out)
  have r0 := cell_of hA9 0
  have r1 := cell_of hA9 1
  have r2 := cell_of hA9 2
  have r3 := cell_of hA9 3
  have r4 := cell_of hA9 4
  have r5 := cell_of hA9 5
  have r6 := cell_of hC9 0
  unfold zE at r0 r1 r2 r3 r4 r5
  simp only [U7, U8, U9] at r0 r1 r2 r3 r4 r5 r6
  clear hA9 hC9 hK9
  simp [Leaves, settle, results, Tryz.results44, go_sem, r0, r1, r2, r3, r4, r5, r6]
  exact HF.out
 have B2 := aa (B1.out.trans (m2.below (s := w.heap.size) (by omega) (by omega)))
 have A2 := aa (af A1.out m2 (by omega))
 have C2 := aa (af C1.out m2 (by omega))
 have KQ : Hid (ch s = if isK q2 6 && vl t2 then some t2 else none) := by
  unfold ch
  rw [if_pos vx.out, DD.out, ho]
  exact rfl
 have jo := m2.size
 have SA := h2.lt
 have Sn := h2.glt
 have gB := aa hFx
 obtain ⟨i0, i1, i2, j1, k1, l1, j2, k2, l2, j3, k3, l3, rfl⟩ := hFx
 have d9 := cU w2 w.heap.size (.int .i64 i0) (.string i1) (.int .i64 i2) (.slice j1 k1 l1) (.slice j2 k2 l2) (.slice j3 k3 l3)
 have gy := eL w2 w.heap.size (.int .i64 i0) (.string i1) (.int .i64 i2) (.slice j1 k1 l1) (.slice j2 k2 l2) (.slice j3 k3 l3)
 have A3 := aa (aZ A2.out (.int .i64 i0) (.string i1) (.int .i64 i2) (.slice j1 k1 l1) (.slice j2 k2 l2) (.slice j3 k3 l3))
 have C3 := aa ((d9.block (w.heap.size + 1) (by show _ ≠ _; omega)).trans C2.out)
 have B3 : Hid (Below w.heap.size w (jp w2 w.heap.size (.int .i64 i0) (.string i1) (.int .i64 i2) (.slice j1 k1 l1) (.slice j2 k2 l2) (.slice j3 k3 l3))) := B2.out.trans ⟨d9.os, d9.tape, d9.output, d9.size, fun k hk => d9.block k (by show _ ≠ _; omega)⟩
 have H3 := aa (h2.other d9 (by omega) (by omega))
 have T3 := aa (hT.keep fun k a1 a2 => d9.block k (by show _ ≠ _; omega))
 have a2 := A2.out
 obtain ⟨⟨u0, u1, u2, u3, u4, u5⟩, f0, f1, f2, f3, f4, f5⟩ := aG a2
 have jr : w.heap.size < w2.heap.size := ad a2
 have Lu : (((((w2.setCell ⟨w.heap.size, 0, none⟩ (.int .i64 i0)).setCell ⟨w.heap.size, 1, none⟩ (.string i1)).setCell ⟨w.heap.size, 2, none⟩ (.int .i64 i2)).setCell ⟨w.heap.size, 3, none⟩ (.slice j1 k1 l1)).setCell ⟨w.heap.size, 4, none⟩ (.slice j2 k2 l2)).setCell ⟨w.heap.size, 5, none⟩ (.slice j3 k3 l3) = jp w2 w.heap.size (.int .i64 i0) (.string i1) (.int .i64 i2) (.slice j1 k1 l1) (.slice j2 k2 l2) (.slice j3 k3 l3) := rfl
 clear m2 ho h2 hT a2 d9
 go_upto_region 4 with fail
 try rw [Lu]
 clear Lu
 generalize jp w2 w.heap.size (.int .i64 i0) (.string i1) (.int .i64 i2) (.slice j1 k1 l1) (.slice j2 k2 l2) (.slice j3 k3 l3) = w3 at *
 clear u0 u1 u2 u3 u4 u5 f0 f1 f2 f3 f4 f5
 go_wp2_with fail
 refine (uu H3.out).mono ?_
 rintro e w4 ⟨m4, ⟨dI, tx, rfl⟩ | ⟨dI, rfl⟩⟩
 case inr =>
  have HP : Hid (ch s = none) := by
   rw [KQ.out, dI]
   exact rfl
  have B4 := aa (B3.out.trans (m4.below (s := w.heap.size) (by omega) (by omega)))
  have A4 := aa (af A3.out m4 (by omega))
  have C4 := aa (af C3.out m4 (by omega))
  clear m4 dI
  unfold ey
  go_wp2
  refine leaves_cons (f := 98) (args := #[.pointer (some ⟨w.heap.size, 0, none⟩), .pointer (some ⟨w.heap.size + 1, 0, none⟩)]) (by simp) (by simp [go_sem]) ?_
  refine (eS w.heap.size (w.heap.size + 1) _ _ [] w4 A4.out C4.out (by omega)).mono ?_
  rintro e u' w9 ⟨rfl, rfl, hA9, hC9, hK9⟩
  have HF := aa (oD B4.out hK9 HP.out)
  have r0 := cell_of hA9 0
  have r1 := cell_of hA9 1
  have r2 := cell_of hA9 2
  have r3 := cell_of hA9 3
  have r4 := cell_of hA9 4
  have r5 := cell_of hA9 5
  have r6 := cell_of hC9 0
  unfold zE at r0 r1 r2 r3 r4 r5
  simp only [U7, U8, U9] at r0 r1 r2 r3 r4 r5 r6
  clear hA9 hC9 hK9
  simp [Leaves, settle, results, Tryz.results44, go_sem, r0, r1, r2, r3, r4, r5, r6]
  exact HF.out
 have B4 := aa (B3.out.trans (m4.below (s := w.heap.size) (by omega) (by omega)))
 have A4 := aa (af A3.out m4 (by omega))
 have C4 := aa (af C3.out m4 (by omega))
 have EJ := m4.size
 have T4 := aa ((T3.out.keep fun k a1 a2 => m4.block k ⟨by omega, by omega⟩).up (h' := 900) (s' := w.heap.size + 2) (u' := w4.heap.size) (by omega) (by omega) (by omega))
 have Lv : Hid (ch s = if vl t2 then some t2 else none) := by
  rw [KQ.out, dI]
  exact rfl
 have eQ := qE (w := w4) (T4.out.reads (K := fO) fun _ _ _ => trivial)
 have jJ := aa eQ
 have Hn : Hid (vl t2 = ((bJ 900).ex t2 1 && decide ((aW 900).ex t2 <= 200))) := rfl
 generalize ((bJ 900).ex t2 1 && decide ((aW 900).ex t2 <= 200)) = bo at jJ Hn
 have a4 := A4.out
 obtain ⟨⟨u0, u1, u2, u3, u4, u5⟩, -⟩ := aG a4
 clear m4 dI eQ a4
 go_wp2_with fail
 refine jJ.out.mono ?_
 rintro e w5 ⟨rfl, uZ⟩
 have B5 := aa (B4.out.trans (uZ.mono B4.out.size))
 have A5 := aa ((uZ.block w.heap.size (ad A4.out)).trans A4.out)
 have C5 := aa ((uZ.block (w.heap.size + 1) (ad C4.out)).trans C4.out)
 have LY := uZ.size
 have T5 := aa ((T4.out.keep (aw uZ U0)).up (s' := w.heap.size + 2) (u' := w5.heap.size) U0 LY U0)
 have UI := aa (T3.out)
 have zg := aa uZ
 clear uZ jJ u0 u1 u2 u3 u4 u5
 cases bo with
 | false =>
  have HP : Hid (ch s = none) := by
   rw [Lv.out, Hn.out]
   exact rfl
  go_wp2_with fail
  refine (cX b w5).mono ?_
  rintro e w6 ⟨rfl, e6⟩
  rw [e6]
  clear e6 w6
  unfold ey
  go_wp2
  refine leaves_cons (f := 98) (args := #[.pointer (some ⟨w.heap.size, 0, none⟩), .pointer (some ⟨w.heap.size + 1, 0, none⟩)]) (by simp) (by simp [go_sem]) ?_
  refine (eS w.heap.size (w.heap.size + 1) _ _ [] w5 A5.out C5.out (by omega)).mono ?_
  rintro e u' w9 ⟨rfl, rfl, hA9, hC9, hK9⟩
  have HF := aa (oD B5.out hK9 HP.out)
  have r0 := cell_of hA9 0
  have r1 := cell_of hA9 1
  have r2 := cell_of hA9 2
  have r3 := cell_of hA9 3
  have r4 := cell_of hA9 4
  have r5 := cell_of hA9 5
  have r6 := cell_of hC9 0
  unfold zE at r0 r1 r2 r3 r4 r5
  simp only [U7, U8, U9] at r0 r1 r2 r3 r4 r5 r6
  clear hA9 hC9 hK9
  simp [Leaves, settle, results, Tryz.results44, go_sem, r0, r1, r2, r3, r4, r5, r6]
  exact HF.out
 | true =>
  have HP : Hid (ch s = some t2) := by
   rw [Lv.out, Hn.out]
   exact rfl
  go_wp2_with fail
  refine (dt b w5).mono ?_
  rintro e w6 ⟨rfl, e6⟩
  rw [e6]
  clear e6 w6
  have fg := cU w5 w.heap.size (.int .i64 i0) (.string i1) (.int .i64 i2) (.slice j1 k1 l1) (.slice j2 k2 l2) (.slice j3 k3 l3)
  have sS := eL w5 w.heap.size (.int .i64 i0) (.string i1) (.int .i64 i2) (.slice j1 k1 l1) (.slice j2 k2 l2) (.slice j3 k3 l3)
  have Jh := aZ A5.out (.int .i64 i0) (.string i1) (.int .i64 i2) (.slice j1 k1 l1) (.slice j2 k2 l2) (.slice j3 k3 l3)
  have L6 := (fg.block (w.heap.size + 1) (by show _ ≠ _; omega)).trans C5.out
  have A7 : Hid (((jp w5 w.heap.size (.int .i64 i0) (.string i1) (.int .i64 i2) (.slice j1 k1 l1) (.slice j2 k2 l2) (.slice j3 k3 l3)).setCell ⟨w.heap.size + 1, 0, none⟩ (.bool true)).heap[w.heap.size]? = some (.cells #[.int .i64 i0, .string i1, .int .i64 i2, .slice j1 k1 l1, .slice j2 k2 l2, .slice j3 k3 l3] 34 (0, 0))) := (az _ (by omega)).trans Jh
  have C7 : Hid (((jp w5 w.heap.size (.int .i64 i0) (.string i1) (.int .i64 i2) (.slice j1 k1 l1) (.slice j2 k2 l2) (.slice j3 k3 l3)).setCell ⟨w.heap.size + 1, 0, none⟩ (.bool true)).heap[w.heap.size + 1]? = some (.cells #[.bool true] 4 (0, 0))) := ae (j := 0) _ L6
  have K7 : Keeps (fun k => k ≠ w.heap.size /\ k ≠ w.heap.size + 1) w5 ((jp w5 w.heap.size (.int .i64 i0) (.string i1) (.int .i64 i2) (.slice j1 k1 l1) (.slice j2 k2 l2) (.slice j3 k3 l3)).setCell ⟨w.heap.size + 1, 0, none⟩ (.bool true)) := (fg.mono fun k h => h.1).trans (ak _ (w.heap.size + 1) 0 _ fun h => h.2 rfl)
  have Z7 : ((jp w5 w.heap.size (.int .i64 i0) (.string i1) (.int .i64 i2) (.slice j1 k1 l1) (.slice j2 k2 l2) (.slice j3 k3 l3)).setCell ⟨w.heap.size + 1, 0, none⟩ (.bool true)).heap.size = w5.heap.size := by rw [World.size_setCell]; exact sS
  have HF : Hid (vL s w (.returned (.tuple #[.agg #[.int .i64 i0, .string i1, .int .i64 i2, .slice j1 k1 l1, .slice j2 k2 l2, .slice j3 k3 l3], .bool true])) ((jp w5 w.heap.size (.int .i64 i0) (.string i1) (.int .i64 i2) (.slice j1 k1 l1) (.slice j2 k2 l2) (.slice j3 k3 l3)).setCell ⟨w.heap.size + 1, 0, none⟩ (.bool true))) := by
   refine ⟨[.int .i64 i0, .string i1, .int .i64 i2, .slice j1 k1 l1, .slice j2 k2 l2, .slice j3 k3 l3], by rw [HP.out]; rfl, gB.out, ?_, ?_⟩
   ·have e : tR s = t2 := by unfold tR; rw [HP.out]; rfl
    rw [e, Z7]
    exact (T5.out.keep fun k a1 a2 => K7.block k ⟨by omega, by omega⟩).up (by omega) U0 U0
   ·exact B5.out.trans ⟨K7.os, K7.tape, K7.output, K7.size, fun k hk => K7.block k ⟨by omega, by omega⟩⟩
  have a5 := A5.out
  obtain ⟨⟨u0, u1, u2, u3, u4, u5⟩, f0, f1, f2, f3, f4, f5⟩ := aG a5
  have c5 := cell_of C5.out 0
  have g5 := aj C5.out 0
  simp only [List.getElem?_toArray, List.getElem?_cons_zero] at c5
  have jm : w.heap.size < w5.heap.size := ad a5
  have OL : w.heap.size + 1 < w5.heap.size := ad C5.out
  have r0 := cell_of A7.out 0
  have r1 := cell_of A7.out 1
  have r2 := cell_of A7.out 2
  have r3 := cell_of A7.out 3
  have r4 := cell_of A7.out 4
  have r5 := cell_of A7.out 5
  have r6 := cell_of C7.out 0
  simp only [U7, U8, U9] at r0 r1 r2 r3 r4 r5 r6
  clear a5 fg Jh L6 K7 Z7 sS
  go_wp2
  refine leaves_cons (f := 98) (args := #[.pointer (some ⟨w.heap.size, 0, none⟩), .pointer (some ⟨w.heap.size + 1, 0, none⟩)]) (by simp) (by simp [go_sem]) ?_
  refine (vy w.heap.size (w.heap.size + 1) _).mono ?_
  rintro e u' w9 ⟨rfl, rfl, e9⟩
  change w9 = (jp w5 w.heap.size (.int .i64 i0) (.string i1) (.int .i64 i2) (.slice j1 k1 l1) (.slice j2 k2 l2) (.slice j3 k3 l3)).setCell ⟨w.heap.size + 1, 0, none⟩ (.bool true) at e9
  rw [<- e9] at HF r0 r1 r2 r3 r4 r5 r6
  simp [Leaves, settle, results, Tryz.results44, go_sem, r0, r1, r2, r3, r4, r5, r6]
  exact HF.out
end
end Go.Proofs.YtfomndilhlgikajGreatDoor.Rd
namespace Go.Proofs.YtfomndilhlgikajGreatDoor.Mh
open Go.ChangeShapes Go.WideShapes Go.ChangeAt Go.RowKit
open Rd (RowS eF sp qq InR TreeT Row All3 ei)
set_option linter.unusedVariables false
theorem oG {α : Type} (f g : α -> Nat) : ∀ (xs : List α), (∀ x ∈ xs, f x <= 8 * g x) -> (xs.map f).sum <= 8 * (xs.map g).sum := by
 intro xs
 induction xs with
 | nil => intro _; exact Nat.le_refl _
 | cons x xs ih =>
  intro h
  have h1 := h x (by simp)
  have h2 := ih fun y hy => h y (by simp [hy])
  simp only [List.map_cons, List.sum_cons]
  omega
theorem xH {α : Type} : ∀ (xs : List α), (xs.map fun _ => 1).sum = xs.length := by
 intro xs
 induction xs with
 | nil => rfl
 | cons x xs ih => simp only [List.map_cons, List.sum_cons, List.length_cons, ih]; omega
theorem RowS.each {α : Type} {w : World} {R : α -> List Value -> List Nat -> Prop} {E : TypeId} {sz : Nat} {v : Value} {xs : List α} {bs : List Nat} (h : RowS w R E sz v xs bs) : ∀ x ∈ xs, ∃ cs b, R x cs b := by
 intro x hx
 obtain ⟨h0, css, bss, h1, h2, rfl⟩ := h
 obtain ⟨i, hi⟩ := List.mem_iff_getElem?.1 hx
 obtain ⟨b, c, -, -, e⟩ := h2.get i x hi
 exact ⟨b, c, e⟩
theorem Ff {l : List ByteArray} (h : eG l = true) : l.length <= 4 := by
 unfold eG at h
 rw [Bool.and_eq_true, decide_eq_true_eq] at h
 omega
theorem Ge {w : World} : ∀ h, (∀ e cs b d, (eF w h).ex e cs b -> (bJ h).ex e d = true -> (lf h).ex e + 5 <= 8 * (aW h).ex e) /\ (∀ e cs b d, (eF w h).de e cs b -> (bJ h).de e d = true -> (lf h).de e <= 8 * (aW h).de e) /\ (∀ e cs b d, (eF w h).al e cs b -> (dY e && (bJ h).al e d) = true -> (lf h).al e <= 8 * (aW h).al e) := by
 intro h
 induction h with
 | zero => exact ⟨fun _ _ _ _ h => h.elim, fun _ _ _ _ h => h.elim, fun _ _ _ _ h => h.elim⟩
 | succ h ih =>
  obtain ⟨i1, i2, i3⟩ := ih
  refine ⟨fun e cs b d hx hk => ?_, fun e cs b d hx hk => ?_, fun e cs b d hx hk => ?_⟩
  ·obtain ⟨e0, e1, v1, v2, v3, b1, b2, b3, rfl, rfl, r1, r2, r3⟩ := hx
   have DC : (decide (d <= 12) && (aH e && (bW (bJ h).ex e.l (d + 1) && (bW (fun a d => dY a && (bJ h).al a d) e.al (d + 1) && (decide (e.k ≠ 6) || cL (bJ h).de e.ds 6 (d + 1)))))) = true := hk
   simp only [Bool.and_eq_true, bW, List.all_eq_true] at DC
   obtain ⟨-, hh, k1, k3, k2⟩ := DC
   have s1 := oG (lf h).ex (aW h).ex e.l fun x hx => by
    obtain ⟨c, b, hs⟩ := RowS.each r1 x hx
    have := i1 x c b _ hs (k1 x hx)
    omega
   have s3 := oG (lf h).al (aW h).al e.al fun x hx => by
    obtain ⟨c, b, hs⟩ := RowS.each r3 x hx
    exact i3 x c b _ hs (by rw [Bool.and_eq_true]; exact k3 x hx)
   have s2 : (e.ds.map (lf h).de).sum <= 8 * (e.ds.map (aW h).de).sum := by
    by_cases h6 : e.k = 6
    ·simp only [h6, ne_eq, not_true, decide_false, Bool.false_or, cL, Bool.and_eq_true, bW, List.all_eq_true] at k2
     exact oG (lf h).de (aW h).de e.ds fun x hx => by
      obtain ⟨c, b, hs⟩ := RowS.each r2 x hx
      exact i2 x c b _ hs (k2.2.1 x hx)
    ·have jj : e.ds = [] := by
      simp only [aH, bw, Bool.and_eq_true, Bool.or_eq_true, decide_eq_true_eq, h6, false_or] at hh
      exact List.length_eq_zero_iff.1 hh.1.1.1.2
     rw [jj]
     exact Nat.le_refl _
   show 3 + _ + _ + _ + 5 <= 8 * (1 + (e.l.map (aW h).ex).sum + (e.al.map (aW h).al).sum + (e.ds.map (aW h).de).sum)
   omega
  ·obtain ⟨d0, d1, d2, d3, x, v1, ce, v2, b1, b2, b3, d4, rfl, rfl, r1, r2, r3⟩ := hx
   have DC : ((mf e.s && eG e.ss) && (bW (bJ h).ex e.l (d + 1) && (decide (e.ds.length = 0) || cL (bJ h).de e.ds 6 (d + 1)))) = true := hk
   simp only [Bool.and_eq_true, bW, List.all_eq_true] at DC
   obtain ⟨⟨-, hv⟩, k1, k2⟩ := DC
   have s1 := i1 x ce b2 _ r2 (k1 x (by rw [d4]; simp))
   have s2 : (e.ds.map (lf h).de).sum <= 8 * (e.ds.map (aW h).de).sum := by
    by_cases h6 : e.ds.length = 0
    ·rw [List.length_eq_zero_iff.1 h6]
     exact Nat.le_refl _
    ·simp only [h6, decide_false, Bool.false_or, cL, Bool.and_eq_true, bW, List.all_eq_true] at k2
     exact oG (lf h).de (aW h).de e.ds fun x hx => by
      obtain ⟨c, b, hs⟩ := RowS.each r3 x hx
      exact i2 x c b _ hs (k2.2.1 x hx)
   have s4 := Ff hv
   show 1 + (e.ss.map fun _ => 1).sum + (e.l.map (lf h).ex).sum + (e.ds.map (lf h).de).sum <= 8 * ((e.l.map (aW h).ex).sum + (e.ds.map (aW h).de).sum)
   rw [xH, d4]
   simp only [List.map_cons, List.map_nil, List.sum_cons, List.sum_nil]
   omega
  ·obtain ⟨d0, d1, d2, d2', d3, x, v1, ce, b1, b2, d4, rfl, rfl, r1, r2⟩ := hx
   rw [Bool.and_eq_true] at hk
   obtain ⟨ha, hk⟩ := hk
   have DC : bW (bJ h).ex e.l d = true := hk
   simp only [bW, List.all_eq_true] at DC
   have s1 := i1 x ce b2 _ r2 (DC x (by rw [d4]; simp))
   have s4 := Ff (by unfold dY at ha; rw [Bool.and_eq_true] at ha; exact ha.1 : eG e.ss = true)
   show 1 + (e.ss.map fun _ => 1).sum + (e.l.map (lf h).ex).sum <= 8 * (e.l.map (aW h).ex).sum
   rw [xH, d4]
   simp only [List.map_cons, List.map_nil, List.sum_cons, List.sum_nil]
   omega
open Rd (RowS eF sp qq InR TreeT Row All3 ei tR ch vl rL)
theorem Al {s : ByteArray} {t : Tr} (h : ch s = some t) : vl t = true := by
 unfold ch at h
 split at h
 ·cases hp : (Rd.onlyP ((Rd.ps 900).ex 0) (Rd.signs s)) with
  | none => rw [hp] at h; cases h
  | some p =>
   rw [hp] at h
   have h' : (if Rd.isK p.2 6 && vl p.1 then some p.1 else none) = some t := h
   split at h'
   ·rename_i hc
    rw [Bool.and_eq_true] at hc
    cases h'
    exact hc.2
   ·cases h'
 ·cases h
def Hx (w : World) (S : Nat -> Prop) (H : Nat) (v1 v2 v3 : Value) (r : Nat) : Prop := ∃ r1 r2, r1 <= r2 /\ r2 <= r /\ HR 6 (hd w S H).ex S v1 0 r1 /\ HR 9 (hd w S H).de S v2 r1 r2 /\ HR 8 (hd w S H).al S v3 r2 r
theorem ux {H m1 m2 m3 : Nat} {S S1 S2 S3 : Nat -> Prop} {v1 v2 v3 : Value} (k : Int) (s : ByteArray) (n : Int) (w : World) (r1 : SR 6 (sh w H).ex w S1 v1 m1) (r2 : SR 9 (sh w H).de w S2 v2 m2) (r3 : SR 8 (sh w H).al w S3 v3 m3) (hS : ∀ x, S1 x \/ S2 x \/ S3 x -> S x) (d1 : Dj S1 S2) (d2 : Dj S1 S3) (d3 : Dj S2 S3) (hw : ∀ x, S x -> x < w.heap.size) (hm : m1 + m2 + m3 <= 4800000) :
 Calls Tryz.prog 15 #[.agg #[.int .i64 k, .string s, .int .i64 n, v1, v2, v3], .int .i64 1] w fun e w' => ∃ r : Nat, e = .returned (.int .i64 ((r : Int) + 1)) /\ r <= m1 + m2 + m3 /\ Hx w' S H v1 v2 v3 r /\ Keeps (fun x => x < w.heap.size /\ ¬ S x) w w' := by
 obtain ⟨o1, n1, c1, e1, -⟩ := id r1
 obtain ⟨o2, n2, c2, e2, -⟩ := id r2
 obtain ⟨o3, n3, c3, e3, -⟩ := id r3
 subst e1 e2 e3
 obtain ⟨iE, iD, iA⟩ := Jz H
 obtain ⟨V, hV⟩ : ∃ V, w.alloc (.cells #[.int .i64 k, .string s, .int .i64 n, .slice o1 n1 c1, .slice o2 n2 c2, .slice o3 n3 c3] 34) = V := ⟨_, rfl⟩
 have lJ : Below w.heap.size w V := by rw [<- hV]; exact (U4 w).alloc U0 _
 have FC : V.heap.size = w.heap.size + 1 := by rw [<- hV]; simp
 have wX : V.heap[w.heap.size]? = some (.cells #[.int .i64 k, .string s, .int .i64 n, .slice o1 n1 c1, .slice o2 n2 c2, .slice o3 n3 c3] 34 (0, 0)) := by rw [<- hV]; exact heap_alloc_new w _
 have aq := aa lJ
 have jV := aa wX
 have HS := aa hS
 have HW := aa hw
 have D1 := aa d1
 have D2 := aa d2
 have D3 := aa d3
 have R2 := aa r2
 have R3 := aa r3
 have Ox := aa iD
 have MV := aa iA
 have y3 := cell_of wX 3
 simp only [U7, U8, U9] at y3
 have gJ : Hid (Calls Tryz.prog 49 #[.slice o1 n1 c1, .int .i64 1] V (Mr 6 (fun w S => (hd w S H).ex) S1 (.slice o1 n1 c1) 0 m1 V)) := iE S1 _ m1 0 V (r1.toE fun x hx => lJ.block x (hw x (hS x (.inl hx)))) (fun x hx => by have := hw x (hS x (.inl hx)); omega) (by omega)
 clear lJ wX hS hw d1 d2 d3 r1 r2 r3 iE iD iA
 go_enter Tryz.func15, Tryz.ntmps15
 go_wp2_with fail
 refine Calls.mono gJ.out ?_
 rintro e w1 ⟨k1, rfl, ha1, bS, hh1, dV⟩
 have Nt := aa hh1
 have ez := aa dV
 clear hh1 dV y3 gJ
 have z1 : V.heap.size <= w1.heap.size := ez.out.size
 have X1 : Hid (w1.heap[w.heap.size]? = some (.cells #[.int .i64 k, .string s, .int .i64 n, .slice o1 n1 c1, .slice o2 n2 c2, .slice o3 n3 c3] 34 (0, 0))) := (ez.out.block _ ⟨by omega, fun h9 => by have := HW.out _ (HS.out _ (.inl h9)); omega⟩).trans jV.out
 have y4 := cell_of X1.out 4
 simp only [U7, U8, U9] at y4
 have a1 : Hid (∀ x, S x -> ¬ S1 x -> w1.heap[x]? = w.heap[x]?) := fun x hx hn => (ez.out.block x ⟨by have := HW.out x hx; omega, hn⟩).trans (aq.out.block x (HW.out x hx))
 have eH : Hid (Calls Tryz.prog 39 #[.slice o2 n2 c2, .int .i64 ((k1 : Int) + 1)] w1 (Mr 9 (fun w S => (hd w S H).de) S2 (.slice o2 n2 c2) k1 m2 w1)) := Ox.out S2 _ m2 k1 w1 (R2.out.toD fun x hx => a1.out x (HS.out x (.inr (.inl hx))) fun h9 => D1.out x h9 hx) (fun x hx => by have := HW.out x (HS.out x (.inr (.inl hx))); omega) (by omega)
 go_wp2_with fail
 refine Calls.mono eH.out ?_
 rintro e w2 ⟨k2, rfl, Og, aX, hh2, aL⟩
 have N6 := aa hh2
 have fh := aa aL
 clear hh2 aL y4 eH
 have z2 : w1.heap.size <= w2.heap.size := fh.out.size
 have X2 : Hid (w2.heap[w.heap.size]? = some (.cells #[.int .i64 k, .string s, .int .i64 n, .slice o1 n1 c1, .slice o2 n2 c2, .slice o3 n3 c3] 34 (0, 0))) := (fh.out.block _ ⟨by omega, fun h9 => by have := HW.out _ (HS.out _ (.inr (.inl h9))); omega⟩).trans X1.out
 have y5 := cell_of X2.out 5
 simp only [U7, U8, U9] at y5
 have a2 : Hid (∀ x, S x -> ¬ S2 x -> w2.heap[x]? = w1.heap[x]?) := fun x hx hn => fh.out.block x ⟨by have := HW.out x hx; omega, hn⟩
 have qH : Hid (Calls Tryz.prog 50 #[.slice o3 n3 c3, .int .i64 ((k2 : Int) + 1)] w2 (Mr 8 (fun w S => (hd w S H).al) S3 (.slice o3 n3 c3) k2 m3 w2)) := MV.out S3 _ m3 k2 w2 (R3.out.toA fun x hx => (a2.out x (HS.out x (.inr (.inr hx))) fun h9 => D3.out x h9 hx).trans (a1.out x (HS.out x (.inr (.inr hx))) fun h9 => D2.out x h9 hx)) (fun x hx => by have := HW.out x (HS.out x (.inr (.inr hx))); omega) (by omega)
 go_wp2_with fail
 refine Calls.mono qH.out ?_
 rintro e w3 ⟨k3, rfl, ha3, cm, hh3, d9⟩
 have Nh := aa hh3
 have fA := aa d9
 clear hh3 d9 y5 qH
 have a3 : Hid (∀ x, S x -> ¬ S3 x -> w3.heap[x]? = w2.heap[x]?) := fun x hx hn => fA.out.block x ⟨by have := HW.out x hx; omega, hn⟩
 have HF : Hid (Hx w3 S H (.slice o1 n1 c1) (.slice o2 n2 c2) (.slice o3 n3 c3) k3) := by
  have i1 : ∀ x, S1 x -> S x := fun x hx => HS.out x (.inl hx)
  have i2 : ∀ x, S2 x -> S x := fun x hx => HS.out x (.inr (.inl hx))
  have i3 : ∀ x, S3 x -> S x := fun x hx => HS.out x (.inr (.inr hx))
  exact ⟨k1, k2, Og, ha3, Nt.out.toE (fun x hx => (a3.out x (i1 x hx) fun h9 => D2.out x hx h9).trans (a2.out x (i1 x hx) fun h9 => D1.out x hx h9)) i1, N6.out.toD (fun x hx => a3.out x (i2 x hx) fun h9 => D3.out x hx h9) i2, Nh.out.toA (fun _ _ => rfl) i3⟩
 have vq : Hid (Keeps (fun x => x < w.heap.size /\ ¬ S x) w w3) := (cJ aq.out fun _ h => h.1).trans ((ez.out.mono fun x hx => ⟨by have := hx.1; omega, fun h9 => hx.2 (HS.out x (.inl h9))⟩).trans ((fh.out.mono fun x hx => ⟨by have := hx.1; omega, fun h9 => hx.2 (HS.out x (.inr (.inl h9)))⟩).trans (fA.out.mono fun x hx => ⟨by have := hx.1; omega, fun h9 => hx.2 (HS.out x (.inr (.inr h9)))⟩)))
 go_wp2
 go_ret
 exact ⟨k3, rfl, by omega, HF.out, vq.out⟩
theorem Hx.same {w w' : World} {S : Nat -> Prop} {H r : Nat} {v1 v2 v3 : Value} (h : Hx w S H v1 v2 v3 r) (hh : ∀ x, S x -> w'.heap[x]? = w.heap[x]?) : Hx w' S H v1 v2 v3 r := by
 obtain ⟨r1, r2, a, b, h1, h2, h3⟩ := h
 exact ⟨r1, r2, a, b, h1.toE hh fun _ h => h, h2.toD hh fun _ h => h, h3.toA hh fun _ h => h⟩
theorem uL {H r : Nat} {S : Nat -> Prop} {v1 v2 v3 : Value} (k : Int) (s : ByteArray) (n : Int) (w : World) (h : Hx w S H v1 v2 v3 r) (hw : ∀ x, S x -> x < w.heap.size) (hr : r <= 4800000) :
 Calls Tryz.prog 16 #[.agg #[.int .i64 k, .string s, .int .i64 n, v1, v2, v3], .int .i64 1] w (Ends r w) := by
 obtain ⟨r1, r2, a12, a23, h1, h2, h3⟩ := h
 obtain ⟨o1, n1, c1, e1, -⟩ := id h1
 obtain ⟨o2, n2, c2, e2, -⟩ := id h2
 obtain ⟨o3, n3, c3, e3, -⟩ := id h3
 subst e1 e2 e3
 obtain ⟨iE, iD, iA⟩ := zP H
 obtain ⟨V, hV⟩ : ∃ V, w.alloc (.cells #[.int .i64 k, .string s, .int .i64 n, .slice o1 n1 c1, .slice o2 n2 c2, .slice o3 n3 c3] 34) = V := ⟨_, rfl⟩
 have lJ : Below w.heap.size w V := by rw [<- hV]; exact (U4 w).alloc U0 _
 have FC : V.heap.size = w.heap.size + 1 := by rw [<- hV]; simp
 have wX : V.heap[w.heap.size]? = some (.cells #[.int .i64 k, .string s, .int .i64 n, .slice o1 n1 c1, .slice o2 n2 c2, .slice o3 n3 c3] 34 (0, 0)) := by rw [<- hV]; exact heap_alloc_new w _
 have aq := aa lJ
 have jV := aa wX
 have HW := aa hw
 have H2 := aa h2
 have H3 := aa h3
 have Ox := aa iD
 have MV := aa iA
 have y3 := cell_of wX 3
 simp only [U7, U8, U9] at y3
 have gJ : Hid (Calls Tryz.prog 51 #[.slice o1 n1 c1, .int .i64 1] V (Ends r1 V)) := iE S _ 0 r1 V (h1.toE (fun x hx => lJ.block x (hw x hx)) fun _ h => h) (by omega)
 clear lJ wX hw h1 h2 h3 iE iD iA
 go_enter Tryz.func16, Tryz.ntmps16
 go_wp2_with fail
 refine Calls.mono gJ.out ?_
 rintro e w1 ⟨rfl, bS⟩
 have aR := aa bS
 clear bS y3 gJ
 have z1 : V.heap.size <= w1.heap.size := aR.out.size
 have X1 : Hid (w1.heap[w.heap.size]? = some (.cells #[.int .i64 k, .string s, .int .i64 n, .slice o1 n1 c1, .slice o2 n2 c2, .slice o3 n3 c3] 34 (0, 0))) := (aR.out.block _ (by omega)).trans jV.out
 have y4 := cell_of X1.out 4
 simp only [U7, U8, U9] at y4
 have a1 : Hid (∀ x, S x -> w1.heap[x]? = w.heap[x]?) := fun x hx => (aR.out.block x (by have := HW.out x hx; omega)).trans (aq.out.block x (HW.out x hx))
 have eH : Hid (Calls Tryz.prog 41 #[.slice o2 n2 c2, .int .i64 ((r1 : Int) + 1)] w1 (Ends r2 w1)) := Ox.out S _ r1 r2 w1 (H2.out.toD a1.out fun _ h => h) (by omega)
 go_wp2_with fail
 refine Calls.mono eH.out ?_
 rintro e w2 ⟨rfl, aX⟩
 have bD := aa aX
 clear aX y4 eH
 have z2 : w1.heap.size <= w2.heap.size := bD.out.size
 have X2 : Hid (w2.heap[w.heap.size]? = some (.cells #[.int .i64 k, .string s, .int .i64 n, .slice o1 n1 c1, .slice o2 n2 c2, .slice o3 n3 c3] 34 (0, 0))) := (bD.out.block _ (by omega)).trans X1.out
 have y5 := cell_of X2.out 5
 simp only [U7, U8, U9] at y5
 have a2 : Hid (∀ x, S x -> w2.heap[x]? = w.heap[x]?) := fun x hx => (bD.out.block x (by have := HW.out x hx; omega)).trans (a1.out x hx)
 have qH : Hid (Calls Tryz.prog 52 #[.slice o3 n3 c3, .int .i64 ((r2 : Int) + 1)] w2 (Ends r w2)) := MV.out S _ r2 r w2 (H3.out.toA a2.out fun _ h => h) (by omega)
 go_wp2_with fail
 refine Calls.mono qH.out ?_
 rintro e w3 ⟨rfl, cm⟩
 have dc : Hid (Below w.heap.size w w3) := aq.out.trans ((aR.out.mono (by omega)).trans ((bD.out.mono (by omega)).trans (cm.mono (by omega))))
 clear cm y5 qH
 go_wp2
 go_ret
 exact ⟨rfl, dc.out⟩
end Go.Proofs.YtfomndilhlgikajGreatDoor.Mh
namespace Go.Proofs.YtfomndilhlgikajGreatDoor.Rd
open Go.ChangeShapes Go.WideShapes Go.ChangeAt Go.RowKit
section
variable {w : World}
theorem lG (s : ByteArray) (hs : s.size <= maxLen) : Calls Tryz.prog 13 #[.string s] w (vL s w) := by
 have B0 : Hid (Below w.heap.size w (w.alloc (.cells #[.int .i64 0, .string ⟨#[]⟩, .int .i64 0, .slice none 0 0, .slice none 0 0, .slice none 0 0] 34))) := (U4 w).alloc U0 _
 have X0 : Hid ((w.alloc (.cells #[.int .i64 0, .string ⟨#[]⟩, .int .i64 0, .slice none 0 0, .slice none 0 0, .slice none 0 0] 34)).heap[w.heap.size]? = some (.cells #[.int .i64 0, .string ⟨#[]⟩, .int .i64 0, .slice none 0 0, .slice none 0 0, .slice none 0 0] 34 (0, 0))) := heap_alloc_new w _
 have ll : (w.alloc (.cells #[.int .i64 0, .string ⟨#[]⟩, .int .i64 0, .slice none 0 0, .slice none 0 0, .slice none 0 0] 34)).heap.size = w.heap.size + 1 := by simp
 have HP := aa (yi (w := w.alloc (.cells #[.int .i64 0, .string ⟨#[]⟩, .int .i64 0, .slice none 0 0, .slice none 0 0, .slice none 0 0] 34)) s hs)
 go_enter Tryz.func13, Tryz.ntmps13
 go_wp2_with fail
 refine HP.out.mono ?_
 rintro e w1 ⟨cs, rfl, hFx, hT, bS⟩
 rw [ll] at hT
 have B1 := aa (B0.out.trans (bS.mono B0.out.size))
 have X1 := aa ((bS.block w.heap.size (ad X0.out)).trans X0.out)
 have T1 := aa hT
 have gB := aa hFx
 obtain ⟨i0, i1, i2, j1, k1, l1, j2, k2, l2, j3, k3, l3, rfl⟩ := hFx
 have J6 : Hid ((ch s).isSome = (ch s).isSome) := rfl
 generalize hbo : (ch s).isSome = bo
 have Ty := aa hbo
 have Ib := aa (aZ X1.out (.int .i64 i0) (.string i1) (.int .i64 i2) (.slice j1 k1 l1) (.slice j2 k2 l2) (.slice j3 k3 l3))
 have nX := aa (cU w1 w.heap.size (.int .i64 i0) (.string i1) (.int .i64 i2) (.slice j1 k1 l1) (.slice j2 k2 l2) (.slice j3 k3 l3))
 have x6 := X1.out
 obtain ⟨⟨u0, u1, u2, u3, u4, u5⟩, f0, f1, f2, f3, f4, f5⟩ := aG x6
 have Dp : w.heap.size < w1.heap.size := ad x6
 clear x6 hT bS hbo J6 HP
 go_wp2
 change bodyPost _ _ _ _ _ (jp w1 w.heap.size (.int .i64 i0) (.string i1) (.int .i64 i2) (.slice j1 k1 l1) (.slice j2 k2 l2) (.slice j3 k3 l3))
 have A6 := Ib.out
 have fg := nX.out
 have sS := eL w1 w.heap.size (.int .i64 i0) (.string i1) (.int .i64 i2) (.slice j1 k1 l1) (.slice j2 k2 l2) (.slice j3 k3 l3)
 generalize jp w1 w.heap.size (.int .i64 i0) (.string i1) (.int .i64 i2) (.slice j1 k1 l1) (.slice j2 k2 l2) (.slice j3 k3 l3) = W6 at A6 fg sS ⊢
 have r0 := cell_of A6 0
 have r1 := cell_of A6 1
 have r2 := cell_of A6 2
 have r3 := cell_of A6 3
 have r4 := cell_of A6 4
 have r5 := cell_of A6 5
 simp only [U7, U8, U9] at r0 r1 r2 r3 r4 r5
 refine bodyPost_ret (v := .tuple #[.agg #[.int .i64 i0, .string i1, .int .i64 i2, .slice j1 k1 l1, .slice j2 k2 l2, .slice j3 k3 l3], .bool bo]) (by simp [results, Tryz.results13, go_sem, r0, r1, r2, r3, r4, r5]) rfl ?_
 refine ⟨[.int .i64 i0, .string i1, .int .i64 i2, .slice j1 k1 l1, .slice j2 k2 l2, .slice j3 k3 l3], by rw [Ty.out], gB.out, ?_, B1.out.trans ⟨fg.os, fg.tape, fg.output, fg.size, fun k hk => fg.block k (by show _ ≠ _; omega)⟩⟩
 rw [sS]
 exact (T1.out.keep fun k a1 a2 => fg.block k (by show _ ≠ _; omega)).up (by omega) U0 U0
end
end Go.Proofs.YtfomndilhlgikajGreatDoor.Rd
namespace Go.Proofs.YtfomndilhlgikajGreatDoor
open Go.RowKit
theorem ru (s : ByteArray) (k : Nat) (h : k + 2 <= s.size) (W : World) : (Instr.slice 9 (.string s) (some (.int .i64 (k : Int))) (some (.int .i64 ((k : Int) + 2))) none).run Tryz.prog W = .ok (.string (s.extract k (k + 2))) W := ji s k 2 h W
theorem ys (s : ByteArray) (k : Nat) (h : k + 1 <= s.size) (W : World) : (Instr.slice 9 (.string s) (some (.int .i64 (k : Int))) (some (.int .i64 ((k : Int) + 1))) none).run Tryz.prog W = .ok (.string (s.extract k (k + 1))) W := ji s k 1 h W
theorem fK (s : ByteArray) (a k : Nat) (h1 : a <= k) (h : k <= s.size) (W : World) : (Instr.slice 9 (.string s) (some (.int .i64 (a : Int))) (some (.int .i64 (k : Int))) none).run Tryz.prog W = .ok (.string (s.extract a k)) W := by
 have h2 := ji s a (k - a) (by omega) W
 rw [show a + (k - a) = k by omega, show (a : Int) + ((k - a : Nat) : Int) = (k : Int) by omega] at h2
 exact h2
theorem tZ (s : ByteArray) (k : Nat) : (s.extract k (k + 2)).toList = (s.data.toList.drop k).take 2 := by
 rw [bd, iw]
theorem Bl (s : ByteArray) (k : Nat) (h : k < s.size) : (s.extract k (k + 1)).toList = [s.data.toList.getD k 0] := by
 rw [bd, iw]
 show (s.data.toList.drop k).take 1 = _
 rw [List.drop_eq_getElem_cons (by rw [ai]; exact h), List.take_succ_cons, List.take_zero, bE s k h]
 rfl
theorem oN (s : ByteArray) (k : Nat) (h : ¬ k + 2 <= s.size) : gI (s.data.toList.drop k) = false /\ gL (s.data.toList.drop k) = false := by
 have hl : (s.data.toList.drop k).length < 2 := by rw [List.length_drop, ai]; omega
 generalize s.data.toList.drop k = l at *
 match l, hl with
 | [], _ => exact ⟨rfl, rfl⟩
 | [x], _ => exact ⟨by simp [gI], by simp [gL]⟩
 | _ :: _ :: _, hl => exact absurd hl (by simp only [List.length_cons]; omega)
theorem uq (L : List UInt8) (k j : Nat) (h1 : k <= j) (h2 : j <= L.length) (cl : ∀ i, k <= i -> i < j -> L.getD i 0 ≠ 10) (he : j = L.length \/ L.getD j 0 = 10) : j = k + cE (L.drop k) := by
 have h := cM (fun c => c != 10) (L.drop k) (j - k) (by rw [List.length_drop]; omega)
  (fun i hi => by rw [cV]; simpa using cl (k + i) (by omega) (by omega))
  (by
   rcases he with he | he
   ·left; rw [List.length_drop]; omega
   ·right; rw [cV, show k + (j - k) = j by omega, he]; rfl)
 unfold cE
 omega
theorem lg (p : UInt8 -> Bool) (L : List UInt8) (k j : Nat) (h1 : k <= j) (h2 : j <= L.length) (cl : ∀ i, k <= i -> i < j -> p (L.getD i 0) = true) (he : j = L.length \/ p (L.getD j 0) = false) : j = k + ((L.drop k).takeWhile p).length := by
 have h := cM p (L.drop k) (j - k) (by rw [List.length_drop]; omega)
  (fun i hi => by rw [cV]; exact cl (k + i) (by omega) (by omega))
  (by
   rcases he with he | he
   ·left; rw [List.length_drop]; omega
   ·right; rw [cV, show k + (j - k) = j by omega]; exact he)
 omega
theorem uO (c d : UInt8) : ((c.toNat : Int) == (d.toNat : Int)) = (c == d) := by
 rw [Bool.eq_iff_iff, beq_iff_eq, beq_iff_eq]
 constructor
 ·intro e; exact UInt8.toNat_inj.1 (by omega)
 ·intro e; rw [e]
theorem rJ (L : List UInt8) (k : Nat) (hk : k < L.length) (hd : gI (L.drop k) = true) : cd L k = cd L (k + cE (L.drop k)) := by
 have Fr := (kT L k hd).2
 rw [dO L k hk, if_neg (gU hk (by rw [Fr]; decide) (by rw [Fr]; decide)), if_pos hd]
def o6 (L : List UInt8) (p : Nat) : Prop := p < L.length -> L.getD p 0 ≠ 10 /\ L.getD p 0 ≠ 32 /\ gI (L.drop p) = false
theorem pa (s : ByteArray) (a : Nat) (w : World) (hs : s.size <= 1500 \/ s.size <= maxLen - 2) (ha : a <= s.size) :
 Calls Tryz.prog 121 #[.string s, .int .i64 a] w fun e w' => ∃ p : Nat, e = .returned (.int .i64 p) /\ a <= p /\ p <= s.size /\ cd s.data.toList a = cd s.data.toList p /\ o6 s.data.toList p /\ w' = w := by
 have Q7 : s.size <= 9223372036854775805 := by
  rcases hs with h | h
  ·omega
  ·exact h
 clear hs
 go_enter Tryz.func121, Tryz.ntmps121
 go_wp2
 go_loop [1] (fun t => ∃ k : Nat, t = .int .i64 k /\ a <= k /\ k <= s.size /\ cd s.data.toList a = cd s.data.toList k) (fun t => s.size - (intOf t).toNat)
 case atStart => exact ⟨a, rfl, Nat.le_refl _, ha, rfl⟩
 case round =>
  obtain ⟨k, rfl, hak, hkn, hlex⟩ := hrel
  have ta := aa hlex
  clear hlex
  by_cases au : k < s.size
  ·have bK : k < s.data.toList.length := by rw [ai]; exact au
   have nM : ((s[k].toNat : Int) != 10) = (s.data.toList.getD k 0 != 10) := by rw [bE s k au]; exact mB s[k] 10
   have CM : ((s[k].toNat : Int) != 32) = (s.data.toList.getD k 0 != 32) := by rw [bE s k au]; exact mB s[k] 32
   by_cases h2 : (k : Int) + 2 <= s.size
   ·have zC := ru s k (by omega)
    have om := tZ s k
    cases hd : gI (s.data.toList.drop k)
    ·have hT : ((s.extract k (k + 2)).toList == [45, 45]) = false := by rw [om]; exact hd
     have HD := aa hd
     clear hd om
     cases hc32 : (s.data.toList.getD k 0 != 32)
     ·rw [hc32] at CM
      have HC : Hid (s.data.toList.getD k 0 = 32) := aa (by simpa using hc32)
      clear hc32 nM
      go_wp2
      go_round
      case rel =>
       refine ⟨k + 1, by go_num, by omega, by omega, ?_⟩
       rw [ta.out, dO _ k bK, if_pos (Or.inr (by rw [fv _ k bK, HC.out]))]
      case measure => simp [intOf]; omega
     ·rw [hc32] at CM
      have HC : Hid (s.data.toList.getD k 0 ≠ 32) := aa (by simpa using hc32)
      clear hc32
      cases hc10 : (s.data.toList.getD k 0 != 10)
      ·rw [hc10] at nM
       have eH : Hid (s.data.toList.getD k 0 = 10) := aa (by simpa using hc10)
       clear hc10
       go_wp2
       go_round
       case rel =>
        refine ⟨k + 1, by go_num, by omega, by omega, ?_⟩
        rw [ta.out, dO _ k bK, if_pos (Or.inl (by rw [fv _ k bK, eH.out]))]
       case measure => simp [intOf]; omega
      ·rw [hc10] at nM
       have eH : Hid (s.data.toList.getD k 0 ≠ 10) := aa (by simpa using hc10)
       clear hc10
       go_wp2
       go_ret
       exact ⟨k, rfl, hak, hkn, ta.out, fun _ => ⟨eH.out, HC.out, HD.out⟩, rfl⟩
    ·have hT : ((s.extract k (k + 2)).toList == [45, 45]) = true := by rw [om]; exact hd
     have Fr := (kT _ k hd).2
     have HD := aa hd
     have TV := aa Fr
     clear hd Fr om nM CM
     go_wp2
     go_loop [1] (fun t => ∃ j : Nat, t = .int .i64 j /\ k <= j /\ j <= s.size /\ ∀ i, k <= i -> i < j -> s.data.toList.getD i 0 ≠ 10) (fun t => s.size - (intOf t).toNat)
     case atStart => exact ⟨k, rfl, Nat.le_refl _, hkn, fun i a b => by omega⟩
     case round =>
      obtain ⟨j, rfl, hkj, hjn, cl⟩ := hrel
      have jI := aa cl
      clear cl
      by_cases hjlt : j < s.size
      ·have hb := mB s[j] 10
       rw [show ((10 : UInt8).toNat : Int) = 10 from rfl] at hb
       cases hc : (s[j] != (10 : UInt8))
       ·rw [hc] at hb
        have HC : Hid (s.data.toList.getD j 0 = 10) := by rw [bE s j hjlt]; exact aa (by simpa using hc)
        clear hc
        go_wp2
        have Ss : k < j := by
         refine Nat.lt_of_le_of_ne hkj fun e => ?_
         subst e
         exact absurd (HC.out.symm.trans TV.out) (by decide)
        refine ⟨⟨j, rfl, by omega, hjn, ?_⟩, by simp [intOf]; omega⟩
        rw [ta.out, rJ _ k bK HD.out, <- uq _ k j hkj (by rw [ai]; exact hjn) jI.out (Or.inr HC.out)]
       ·rw [hc] at hb
        have HC : Hid (s.data.toList.getD j 0 ≠ 10) := by rw [bE s j hjlt]; exact aa (by simpa using hc)
        clear hc
        go_wp2
        go_round
        case rel =>
         refine ⟨j + 1, by go_num, by omega, by omega, fun i a b => ?_⟩
         by_cases hij : i < j
         ·exact jI.out i a hij
         ·have : i = j := by omega
          subst this
          exact HC.out
        case measure => simp [intOf]; omega
      ·go_wp2
       refine ⟨⟨j, rfl, by omega, hjn, ?_⟩, by simp [intOf]; omega⟩
       rw [ta.out, rJ _ k bK HD.out, <- uq _ k j hkj (by rw [ai]; exact hjn) jI.out (Or.inl (by rw [ai]; omega))]
   ·have hd := (oN s k (by omega)).1
    have HD := aa hd
    clear hd
    cases hc32 : (s.data.toList.getD k 0 != 32)
    ·rw [hc32] at CM
     have HC : Hid (s.data.toList.getD k 0 = 32) := aa (by simpa using hc32)
     clear hc32 nM
     go_wp2
     go_round
     case rel =>
      refine ⟨k + 1, by go_num, by omega, by omega, ?_⟩
      rw [ta.out, dO _ k bK, if_pos (Or.inr (by rw [fv _ k bK, HC.out]))]
     case measure => simp [intOf]; omega
    ·rw [hc32] at CM
     have HC : Hid (s.data.toList.getD k 0 ≠ 32) := aa (by simpa using hc32)
     clear hc32
     cases hc10 : (s.data.toList.getD k 0 != 10)
     ·rw [hc10] at nM
      have eH : Hid (s.data.toList.getD k 0 = 10) := aa (by simpa using hc10)
      clear hc10
      go_wp2
      go_round
      case rel =>
       refine ⟨k + 1, by go_num, by omega, by omega, ?_⟩
       rw [ta.out, dO _ k bK, if_pos (Or.inl (by rw [fv _ k bK, eH.out]))]
      case measure => simp [intOf]; omega
     ·rw [hc10] at nM
      have eH : Hid (s.data.toList.getD k 0 ≠ 10) := aa (by simpa using hc10)
      clear hc10
      go_wp2
      go_ret
      exact ⟨k, rfl, hak, hkn, ta.out, fun _ => ⟨eH.out, HC.out, HD.out⟩, rfl⟩
  ·have fE : o6 s.data.toList k := fun h => absurd h (by rw [ai]; exact au)
   have ed := aa fE
   clear fE
   go_wp2
   go_ret
   exact ⟨k, rfl, hak, hkn, ta.out, ed.out, rfl⟩
theorem yD (s : ByteArray) (a : Nat) (w : World) (ha : a <= s.size) (hs : s.size <= 1500) :
 Calls Tryz.prog 123 #[.string s, .int .i64 a] w fun e w' => e = .returned (.tuple #[.int .i64 (bN s.data.toList a : Nat), .int .i64 ((a : Int) - (db s.data.toList a : Nat) + 1)]) /\ w' = w := by
 go_enter Tryz.func123, Tryz.ntmps123
 go_wp2
 go_loop [6, 7, 8] (fun l c i => ∃ j ln bg : Nat, l = .int .i64 ln /\ c = .int .i64 ((j : Int) - bg + 1) /\ i = .int .i64 j /\ j <= a /\ bg <= j /\ ln <= j + 1 /\ ln = bN s.data.toList j /\ bg = db s.data.toList j) (fun _ _ i => a - (intOf i).toNat)
 case atStart => exact ⟨0, 1, 0, rfl, rfl, rfl, Nat.zero_le _, Nat.le_refl _, by omega, rfl, rfl⟩
 case round =>
  obtain ⟨j, ln, bg, rfl, rfl, rfl, hja, hbj, hlj, tp, hbg⟩ := hrel
  have ma := aa tp
  have rU := aa hbg
  clear tp hbg
  by_cases au : j < a
  ·have Hl : j < s.size := by omega
   have bK : j < s.data.toList.length := by rw [ai]; exact Hl
   have hb := uO s[j] 10
   rw [show ((10 : UInt8).toNat : Int) = 10 from rfl] at hb
   cases hc : (s[j] == (10 : UInt8))
   ·rw [hc] at hb
    have HC : Hid (s.data.toList.getD j 0 ≠ 10) := by rw [bE s j Hl]; exact aa (by simpa using hc)
    clear hc
    go_wp2
    go_round
    case rel =>
     have hl := jZ bK HC.out
     exact ⟨j + 1, ln, bg, rfl, by go_num, by go_num, by omega, by omega, by omega, ma.out.trans hl.1.symm, rU.out.trans hl.2.symm⟩
    case measure => simp [intOf]; omega
   ·rw [hc] at hb
    have HC : Hid (s.data.toList.getD j 0 = 10) := by rw [bE s j Hl]; exact aa (by simpa using hc)
    clear hc
    go_wp2
    go_round
    case rel =>
     have hl := oy bK HC.out
     exact ⟨j + 1, ln + 1, j + 1, by go_num, by go_num, by go_num, by omega, by omega, by omega, by rw [hl.1, <- ma.out], hl.2.symm⟩
    case measure => simp [intOf]; omega
  ·have nO : j = a := by omega
   subst nO
   go_wp2
   go_ret2
   refine ⟨?_, rfl⟩
   rw [<- ma.out, <- rU.out]
   rfl
end Go.Proofs.YtfomndilhlgikajGreatDoor
namespace Go.Proofs.YtfomndilhlgikajGreatDoor
open Go.RowKit
theorem eE (p : UInt8 -> Bool) (s : ByteArray) (a j : Nat) (h : j = a + ((s.data.toList.drop a).takeWhile p).length) : (s.extract a j).data.toList = (s.data.toList.drop a).takeWhile p := by
 rw [h, iw]
 show (s.data.toList.drop a).take _ = _
 rw [eu]
theorem gW (s : ByteArray) (a j : Nat) (h1 : a <= j) (h2 : j <= s.size) : (s.extract a j).size = j - a := by
 rw [ByteArray.size_extract]; omega
theorem Eh (s : ByteArray) (a : Nat) (h : a < s.size) : (s.data.toList.drop a).headD 0 = s[a] := by
 rw [<- kL, cV, Nat.add_zero, bE s a h]
def marksB : List ByteArray := [⟨#[40]⟩, ⟨#[41]⟩, ⟨#[123]⟩, ⟨#[125]⟩, ⟨#[59]⟩, ⟨#[61]⟩, ⟨#[92]⟩, ⟨#[124]⟩, ⟨#[43]⟩, ⟨#[45]⟩, ⟨#[42]⟩, ⟨#[60]⟩, ⟨#[95]⟩]
theorem ub : marksB.map ByteArray.toList = marksL.map fun m => [m] := by kernel_rfl
theorem rc (t : ByteArray) (c : UInt8) (h : t.toList = [c]) : (marksB.any fun m => m.toList == t.toList) = fm c := by
 have h1 : (marksB.any fun m => m.toList == t.toList) = (marksB.map ByteArray.toList).any fun m => m == [c] := by
  rw [List.any_map, h]
  rfl
 rw [h1, ub, List.any_map]
 unfold fm
 congr 1
 funext m
 show ([m] == [c]) = (m == c)
 simp
theorem yU (s : ByteArray) (a : Nat) (w : World) (ha : a < s.size) (hs : s.size <= 1500) :
 Calls Tryz.prog 122 #[.string s, .int .i64 a] w fun e w' => ∃ n : Nat, e = .returned (.tuple #[.int .i64 n, .int .i64 (cr (s.data.toList.drop a) : Nat)]) /\ (cr (s.data.toList.drop a) ≠ 0 -> n = bA (s.data.toList.drop a)) /\ Below w.heap.size w w' := by
 have hh := Eh s a ha
 cases hdig : bM s[a]
 ·have EO : Hid (bM ((s.data.toList.drop a).headD 0) = false) := by rw [hh]; exact aa hdig
  have HD := aa hdig
  clear hdig
  cases hsm : cz (s[a].toNat : Int) 97 122
  ·cases hla : cz (s[a].toNat : Int) 65 90
   ·have zG : Hid (fC ((s.data.toList.drop a).headD 0) = false) := by rw [hh, fC, hsm, hla]; exact aa rfl
    have HS := aa hsm
    have HL := aa hla
    have HH := aa hh
    clear hsm hla hh
    have nN := ys s a (by omega)
    have Lq := Bl s a ha
    rw [bE s a ha] at Lq
    have Qd := aa Lq
    clear Lq
    by_cases h2 : (a : Int) + 2 <= s.size
    ·have zC := ru s a (by omega)
     have om := tZ s a
     cases ht1 : ((s.data.toList.drop a).take 2 == [45, 62])
     ·cases ht2 : ((s.data.toList.drop a).take 2 == [61, 61])
      ·have Fy : ((s.extract a (a + 2)).toList == [45, 62]) = false := by rw [om]; exact ht1
       have S7 : ((s.extract a (a + 2)).toList == [61, 61]) = false := by rw [om]; exact ht2
       have HT := aa (show gL (s.data.toList.drop a) = false by rw [gL, ht1, ht2]; rfl)
       clear ht1 ht2 om
       go_enter Tryz.func122, Tryz.ntmps122
       go_wp2_with fail
       refine (cW _ _).mono ?_
       rintro e w1 ⟨rfl, rfl⟩
       rw [show cz (s[a].toNat : Int) 48 57 = false from HD.out]
       go_wp2_with fail
       refine (dp _ _).mono ?_
       rintro e w1 ⟨rfl, rfl⟩
       rw [HS.out]
       go_wp2_with fail
       refine (eY _ _).mono ?_
       rintro e w1 ⟨rfl, rfl⟩
       rw [HL.out]
       go_wp2_with fail
       refine (oC marksB w1.heap.size 13 rfl (by omega) (s.extract a (a + 1)) _ ?_).mono ?_
       ·intro i hi
        rw [World.cell?_alloc_new]
        match i, hi with
        | 0, _ => rfl
        | 1, _ => rfl
        | 2, _ => rfl
        | 3, _ => rfl
        | 4, _ => rfl
        | 5, _ => rfl
        | 6, _ => rfl
        | 7, _ => rfl
        | 8, _ => rfl
        | 9, _ => rfl
        | 10, _ => rfl
        | 11, _ => rfl
        | 12, _ => rfl
       rintro e w2 ⟨rfl, rfl⟩
       rw [rc _ _ Qd.out]
       cases hm : fm s[a]
       ·have HM : Hid (fm ((s.data.toList.drop a).headD 0) = false) := by rw [HH.out]; exact aa hm
        clear hm
        go_wp2
        go_ret2
        have h0 := fJ _ zG.out EO.out HT.out HM.out
        exact ⟨0, by rw [h0]; rfl, fun h => absurd h0 h, (U4 _).alloc U0 _⟩
       ·have HM : Hid (fm ((s.data.toList.drop a).headD 0) = true) := by rw [HH.out]; exact aa hm
        clear hm
        go_wp2
        go_ret2
        have hk := iY _ zG.out EO.out HT.out HM.out
        exact ⟨1, by rw [hk.1]; rfl, fun _ => hk.2.symm, (U4 _).alloc U0 _⟩
      ·have Fy : ((s.extract a (a + 2)).toList == [45, 62]) = false := by rw [om]; exact ht1
       have S7 : ((s.extract a (a + 2)).toList == [61, 61]) = true := by rw [om]; exact ht2
       have HT := aa (show gL (s.data.toList.drop a) = true by rw [gL, ht2]; simp)
       clear ht1 ht2 om
       go_enter Tryz.func122, Tryz.ntmps122
       go_wp2_with fail
       refine (cW _ _).mono ?_
       rintro e w1 ⟨rfl, rfl⟩
       rw [show cz (s[a].toNat : Int) 48 57 = false from HD.out]
       go_wp2_with fail
       refine (dp _ _).mono ?_
       rintro e w1 ⟨rfl, rfl⟩
       rw [HS.out]
       go_wp2_with fail
       refine (eY _ _).mono ?_
       rintro e w1 ⟨rfl, rfl⟩
       rw [HL.out]
       go_wp2
       go_ret2
       have hk := gY _ zG.out EO.out HT.out
       exact ⟨2, by rw [hk.1]; rfl, fun _ => hk.2.symm, Below.refl _ _⟩
     ·have Fy : ((s.extract a (a + 2)).toList == [45, 62]) = true := by rw [om]; exact ht1
      have HT := aa (show gL (s.data.toList.drop a) = true by rw [gL, ht1]; rfl)
      clear ht1 om
      go_enter Tryz.func122, Tryz.ntmps122
      go_wp2_with fail
      refine (cW _ _).mono ?_
      rintro e w1 ⟨rfl, rfl⟩
      rw [show cz (s[a].toNat : Int) 48 57 = false from HD.out]
      go_wp2_with fail
      refine (dp _ _).mono ?_
      rintro e w1 ⟨rfl, rfl⟩
      rw [HS.out]
      go_wp2_with fail
      refine (eY _ _).mono ?_
      rintro e w1 ⟨rfl, rfl⟩
      rw [HL.out]
      go_wp2
      go_ret2
      have hk := gY _ zG.out EO.out HT.out
      exact ⟨2, by rw [hk.1]; rfl, fun _ => hk.2.symm, Below.refl _ _⟩
    ·have HT := aa (oN s a (by omega)).2
     go_enter Tryz.func122, Tryz.ntmps122
     go_wp2_with fail
     refine (cW _ _).mono ?_
     rintro e w1 ⟨rfl, rfl⟩
     rw [show cz (s[a].toNat : Int) 48 57 = false from HD.out]
     go_wp2_with fail
     refine (dp _ _).mono ?_
     rintro e w1 ⟨rfl, rfl⟩
     rw [HS.out]
     go_wp2_with fail
     refine (eY _ _).mono ?_
     rintro e w1 ⟨rfl, rfl⟩
     rw [HL.out]
     go_wp2_with fail
     refine (oC marksB w1.heap.size 13 rfl (by omega) (s.extract a (a + 1)) _ ?_).mono ?_
     ·intro i hi
      rw [World.cell?_alloc_new]
      match i, hi with
      | 0, _ => rfl
      | 1, _ => rfl
      | 2, _ => rfl
      | 3, _ => rfl
      | 4, _ => rfl
      | 5, _ => rfl
      | 6, _ => rfl
      | 7, _ => rfl
      | 8, _ => rfl
      | 9, _ => rfl
      | 10, _ => rfl
      | 11, _ => rfl
      | 12, _ => rfl
     rintro e w2 ⟨rfl, rfl⟩
     rw [rc _ _ Qd.out]
     cases hm : fm s[a]
     ·have HM : Hid (fm ((s.data.toList.drop a).headD 0) = false) := by rw [HH.out]; exact aa hm
      clear hm
      go_wp2
      go_ret2
      have h0 := fJ _ zG.out EO.out HT.out HM.out
      exact ⟨0, by rw [h0]; rfl, fun h => absurd h0 h, (U4 _).alloc U0 _⟩
     ·have HM : Hid (fm ((s.data.toList.drop a).headD 0) = true) := by rw [HH.out]; exact aa hm
      clear hm
      go_wp2
      go_ret2
      have hk := iY _ zG.out EO.out HT.out HM.out
      exact ⟨1, by rw [hk.1]; rfl, fun _ => hk.2.symm, (U4 _).alloc U0 _⟩
   ·have zG : Hid (fC ((s.data.toList.drop a).headD 0) = true) := by rw [hh, fC, hla]; exact aa (by simp)
    have HS := aa hsm
    have HL := aa hla
    clear hsm hla hh
    go_enter Tryz.func122, Tryz.ntmps122
    go_wp2_with fail
    refine (cW _ _).mono ?_
    rintro e w1 ⟨rfl, rfl⟩
    rw [show cz (s[a].toNat : Int) 48 57 = false from HD.out]
    go_wp2_with fail
    refine (dp _ _).mono ?_
    rintro e w1 ⟨rfl, rfl⟩
    rw [HS.out]
    go_wp2_with fail
    refine (eY _ _).mono ?_
    rintro e w1 ⟨rfl, rfl⟩
    rw [HL.out]
    go_wp2_with fail
    go_loop [7] (fun t => ∃ j : Nat, t = .int .i64 j /\ a <= j /\ j <= s.size /\ ∀ i, a <= i -> i < j -> cO (s.data.toList.getD i 0) = true) (fun t => s.size - (intOf t).toNat)
    case atStart => exact ⟨a, rfl, Nat.le_refl _, by omega, fun i x y => by omega⟩
    case round =>
     obtain ⟨j, rfl, haj, hjn, cl⟩ := hrel
     have jI := aa cl
     clear cl
     by_cases hjlt : j < s.size
     ·cases hc : cO s[j]
      ·have HC := aa hc
       have eH : Hid (cO (s.data.toList.getD j 0) = false) := by rw [bE s j hjlt]; exact aa hc
       clear hc
       go_wp2_with fail
       refine (fI _ _).mono ?_
       rintro e w1 ⟨rfl, rfl⟩
       rw [show eC (s[j].toNat : Int) = false from HC.out]
       have nO := lg cO s.data.toList a j haj (by rw [ai]; exact hjn) jI.out (Or.inr eH.out)
       have zC := fK s a j haj hjn
       have lk := eE cO s a j nO
       have cI := gW s a j haj hjn
       have HK := aa (fU _ zG.out)
       have Db := aa nO
       clear nO
       go_wp2_with fail
       refine (kV _ _ (by rw [cI]; unfold maxLen; omega)).mono ?_
       rintro e w1 ⟨rfl, bS⟩
       rw [lk, <- HK.out.1]
       have aR := aa bS
       clear lk cI bS
       go_wp2
       go_ret2
       refine ⟨j - a, ?_, fun _ => ?_, aR.out⟩
       ·rw [show ((j - a : Nat) : Int) = (j : Int) - a by omega]; rfl
       ·rw [HK.out.2]; have := Db.out; omega
      ·have HC := aa hc
       have eH : Hid (cO (s.data.toList.getD j 0) = true) := by rw [bE s j hjlt]; exact aa hc
       clear hc
       go_wp2_with fail
       refine (fI _ _).mono ?_
       rintro e w1 ⟨rfl, rfl⟩
       rw [show eC (s[j].toNat : Int) = true from HC.out]
       go_wp2
       go_round
       case rel =>
        refine ⟨j + 1, by go_num, by omega, by omega, fun i x y => ?_⟩
        by_cases hij : i < j
        ·exact jI.out i x hij
        ·have : i = j := by omega
         subst this
         exact eH.out
       case measure => simp [intOf]; omega
     ·skip
      have nO := lg cO s.data.toList a j haj (by rw [ai]; exact hjn) jI.out (Or.inl (by rw [ai]; omega))
      have zC := fK s a j haj hjn
      have lk := eE cO s a j nO
      have cI := gW s a j haj hjn
      have HK := aa (fU _ zG.out)
      have Db := aa nO
      clear nO
      go_wp2_with fail
      refine (kV _ _ (by rw [cI]; unfold maxLen; omega)).mono ?_
      rintro e w1 ⟨rfl, bS⟩
      rw [lk, <- HK.out.1]
      have aR := aa bS
      clear lk cI bS
      go_wp2
      go_ret2
      refine ⟨j - a, ?_, fun _ => ?_, aR.out⟩
      ·rw [show ((j - a : Nat) : Int) = (j : Int) - a by omega]; rfl
      ·rw [HK.out.2]; have := Db.out; omega
  ·have zG : Hid (fC ((s.data.toList.drop a).headD 0) = true) := by rw [hh, fC, hsm]; exact aa rfl
   have HS := aa hsm
   clear hsm hh
   go_enter Tryz.func122, Tryz.ntmps122
   go_wp2_with fail
   refine (cW _ _).mono ?_
   rintro e w1 ⟨rfl, rfl⟩
   rw [show cz (s[a].toNat : Int) 48 57 = false from HD.out]
   go_wp2_with fail
   refine (dp _ _).mono ?_
   rintro e w1 ⟨rfl, rfl⟩
   rw [HS.out]
   go_wp2_with fail
   go_loop [7] (fun t => ∃ j : Nat, t = .int .i64 j /\ a <= j /\ j <= s.size /\ ∀ i, a <= i -> i < j -> cO (s.data.toList.getD i 0) = true) (fun t => s.size - (intOf t).toNat)
   case atStart => exact ⟨a, rfl, Nat.le_refl _, by omega, fun i x y => by omega⟩
   case round =>
    obtain ⟨j, rfl, haj, hjn, cl⟩ := hrel
    have jI := aa cl
    clear cl
    by_cases hjlt : j < s.size
    ·cases hc : cO s[j]
     ·have HC := aa hc
      have eH : Hid (cO (s.data.toList.getD j 0) = false) := by rw [bE s j hjlt]; exact aa hc
      clear hc
      go_wp2_with fail
      refine (fI _ _).mono ?_
      rintro e w1 ⟨rfl, rfl⟩
      rw [show eC (s[j].toNat : Int) = false from HC.out]
      have nO := lg cO s.data.toList a j haj (by rw [ai]; exact hjn) jI.out (Or.inr eH.out)
      have zC := fK s a j haj hjn
      have lk := eE cO s a j nO
      have cI := gW s a j haj hjn
      have HK := aa (fU _ zG.out)
      have Db := aa nO
      clear nO
      go_wp2_with fail
      refine (kV _ _ (by rw [cI]; unfold maxLen; omega)).mono ?_
      rintro e w1 ⟨rfl, bS⟩
      rw [lk, <- HK.out.1]
      have aR := aa bS
      clear lk cI bS
      go_wp2
      go_ret2
      refine ⟨j - a, ?_, fun _ => ?_, aR.out⟩
      ·rw [show ((j - a : Nat) : Int) = (j : Int) - a by omega]; rfl
      ·rw [HK.out.2]; have := Db.out; omega
     ·have HC := aa hc
      have eH : Hid (cO (s.data.toList.getD j 0) = true) := by rw [bE s j hjlt]; exact aa hc
      clear hc
      go_wp2_with fail
      refine (fI _ _).mono ?_
      rintro e w1 ⟨rfl, rfl⟩
      rw [show eC (s[j].toNat : Int) = true from HC.out]
      go_wp2
      go_round
      case rel =>
       refine ⟨j + 1, by go_num, by omega, by omega, fun i x y => ?_⟩
       by_cases hij : i < j
       ·exact jI.out i x hij
       ·have : i = j := by omega
        subst this
        exact eH.out
      case measure => simp [intOf]; omega
    ·skip
     have nO := lg cO s.data.toList a j haj (by rw [ai]; exact hjn) jI.out (Or.inl (by rw [ai]; omega))
     have zC := fK s a j haj hjn
     have lk := eE cO s a j nO
     have cI := gW s a j haj hjn
     have HK := aa (fU _ zG.out)
     have Db := aa nO
     clear nO
     go_wp2_with fail
     refine (kV _ _ (by rw [cI]; unfold maxLen; omega)).mono ?_
     rintro e w1 ⟨rfl, bS⟩
     rw [lk, <- HK.out.1]
     have aR := aa bS
     clear lk cI bS
     go_wp2
     go_ret2
     refine ⟨j - a, ?_, fun _ => ?_, aR.out⟩
     ·rw [show ((j - a : Nat) : Int) = (j : Int) - a by omega]; rfl
     ·rw [HK.out.2]; have := Db.out; omega
 ·have EO : Hid (bM ((s.data.toList.drop a).headD 0) = true) := by rw [hh]; exact aa hdig
  have HD := aa hdig
  clear hdig hh
  go_enter Tryz.func122, Tryz.ntmps122
  go_wp2_with fail
  refine (cW _ _).mono ?_
  rintro e w1 ⟨rfl, rfl⟩
  rw [show cz (s[a].toNat : Int) 48 57 = true from HD.out]
  go_wp2_with fail
  go_loop [7] (fun t => ∃ j : Nat, t = .int .i64 j /\ a <= j /\ j <= s.size /\ ∀ i, a <= i -> i < j -> bM (s.data.toList.getD i 0) = true) (fun t => s.size - (intOf t).toNat)
  case atStart => exact ⟨a, rfl, Nat.le_refl _, by omega, fun i x y => by omega⟩
  case round =>
   obtain ⟨j, rfl, haj, hjn, cl⟩ := hrel
   have jI := aa cl
   clear cl
   by_cases hjlt : j < s.size
   ·cases hc : bM s[j]
    ·have HC := aa hc
     have eH : Hid (bM (s.data.toList.getD j 0) = false) := by rw [bE s j hjlt]; exact aa hc
     clear hc
     go_wp2_with fail
     refine (cW _ _).mono ?_
     rintro e w1 ⟨rfl, rfl⟩
     rw [show cz (s[j].toNat : Int) 48 57 = false from HC.out]
     have nO := lg bM s.data.toList a j haj (by rw [ai]; exact hjn) jI.out (Or.inr eH.out)
     have zC := fK s a j haj hjn
     have lk := eE bM s a j nO
     have cI := gW s a j haj hjn
     have HK := aa (ja _ EO.out)
     have Db := aa nO
     clear nO
     cases jS : mL ((s.data.toList.drop a).takeWhile bM)
     ·have jK := aa jS
      clear jS
      go_wp2_with fail
      refine (kN _ _ (by rw [cI]; unfold maxLen; omega)).mono ?_
      rintro e w1 ⟨rfl, rfl⟩
      rw [lk, jK.out]
      clear lk cI
      go_wp2
      go_ret2
      have h0 : cr (s.data.toList.drop a) = 0 := by rw [HK.out.1, gm, jK.out]; rfl
      exact ⟨0, by rw [h0]; rfl, fun h => absurd h0 h, Below.refl _ _⟩
     ·have jK := aa jS
      clear jS
      go_wp2_with fail
      refine (kN _ _ (by rw [cI]; unfold maxLen; omega)).mono ?_
      rintro e w1 ⟨rfl, rfl⟩
      rw [lk, jK.out]
      clear lk cI
      go_wp2
      go_ret2
      have h3 : cr (s.data.toList.drop a) = 3 := by rw [HK.out.1, gm, jK.out]; rfl
      refine ⟨j - a, ?_, fun _ => ?_, Below.refl _ _⟩
      ·rw [h3, show ((j - a : Nat) : Int) = (j : Int) - a by omega]; rfl
      ·rw [HK.out.2]; have := Db.out; omega
    ·have HC := aa hc
     have eH : Hid (bM (s.data.toList.getD j 0) = true) := by rw [bE s j hjlt]; exact aa hc
     clear hc
     go_wp2_with fail
     refine (cW _ _).mono ?_
     rintro e w1 ⟨rfl, rfl⟩
     rw [show cz (s[j].toNat : Int) 48 57 = true from HC.out]
     go_wp2
     go_round
     case rel =>
      refine ⟨j + 1, by go_num, by omega, by omega, fun i x y => ?_⟩
      by_cases hij : i < j
      ·exact jI.out i x hij
      ·have : i = j := by omega
       subst this
       exact eH.out
     case measure => simp [intOf]; omega
   ·skip
    have nO := lg bM s.data.toList a j haj (by rw [ai]; exact hjn) jI.out (Or.inl (by rw [ai]; omega))
    have zC := fK s a j haj hjn
    have lk := eE bM s a j nO
    have cI := gW s a j haj hjn
    have HK := aa (ja _ EO.out)
    have Db := aa nO
    clear nO
    cases jS : mL ((s.data.toList.drop a).takeWhile bM)
    ·have jK := aa jS
     clear jS
     go_wp2_with fail
     refine (kN _ _ (by rw [cI]; unfold maxLen; omega)).mono ?_
     rintro e w1 ⟨rfl, rfl⟩
     rw [lk, jK.out]
     clear lk cI
     go_wp2
     go_ret2
     have h0 : cr (s.data.toList.drop a) = 0 := by rw [HK.out.1, gm, jK.out]; rfl
     exact ⟨0, by rw [h0]; rfl, fun h => absurd h0 h, Below.refl _ _⟩
    ·have jK := aa jS
     clear jS
     go_wp2_with fail
     refine (kN _ _ (by rw [cI]; unfold maxLen; omega)).mono ?_
     rintro e w1 ⟨rfl, rfl⟩
     rw [lk, jK.out]
     clear lk cI
     go_wp2
     go_ret2
     have h3 : cr (s.data.toList.drop a) = 3 := by rw [HK.out.1, gm, jK.out]; rfl
     refine ⟨j - a, ?_, fun _ => ?_, Below.refl _ _⟩
     ·rw [h3, show ((j - a : Nat) : Int) = (j : Int) - a by omega]; rfl
     ·rw [HK.out.2]; have := Db.out; omega
theorem vB (L : List UInt8) (a : Nat) (ts : List TokP) (h : cd L 0 = (cd L a).map (ts ++ ·)) (h2 : 400 <= ts.length) : lu L = none := by
 cases hx : cd L a with
 | none =>
  rw [hx] at h
  unfold lu
  rw [h]
  split <;> rfl
 | some y =>
  rw [hx] at h
  exact nc L (ts ++ y) h (by rw [List.length_append]; omega)
theorem AB (L : List UInt8) (a : Nat) (ts : List TokP) (h : cd L 0 = (cd L a).map (ts ++ ·)) (ha : a < L.length) (fE : o6 L a) (hk : cr (L.drop a) = 0) : lu L = none := by
 obtain ⟨h1, h2, h3⟩ := fE ha
 have hn : cd L a = none := by
  rw [dO L a ha, if_neg (gU ha h1 h2), h3, if_neg (by decide), if_pos hk]
 rw [hn] at h
 unfold lu
 rw [h]
 split <;> rfl
theorem Em (L : List UInt8) (a : Nat) (ts : List TokP) (h : cd L 0 = (cd L a).map (ts ++ ·)) (ha : a < L.length) (fE : o6 L a) (hk : cr (L.drop a) ≠ 0) : cd L 0 = (cd L (a + bA (L.drop a))).map (ts ++ [jL L a] ++ ·) := by
 obtain ⟨h1, h2, h3⟩ := fE ha
 rw [h, dO L a ha, if_neg (gU ha h1 h2), h3, if_neg (by decide), if_neg hk, mJ]
theorem nQ (k : Int) (t : ByteArray) (l c : Int) : ∀ u ∈ [Value.int .i64 k, .string t, .int .i64 l, .int .i64 c], u.oneCell' = true := by
 intro u hu
 simp only [List.mem_cons, List.not_mem_nil, or_false] at hu
 rcases hu with rfl | rfl | rfl | rfl <;> rfl
theorem jE {n : Nat} {w : World} (h : n <= w.heap.size) (o : Obj) : n <= (w.alloc o).heap.size := Nat.le_trans h (by simp)
theorem BP (w : World) (e : TypeId) : ((w.alloc (.cells #[] e)).alloc (.cells #[] e)).ownsRow w.heap.size e 4 (.slice (some ⟨w.heap.size + 1, 0, none⟩) 0 0) 0 [] := by
 have h := da (w.alloc (.cells #[] e)) e 4
 rw [show (w.alloc (.cells #[] e)).heap.size = w.heap.size + 1 by simp] at h
 exact fM h (Nat.le_succ _)
theorem ww {w : World} {base : Nat} {e : TypeId} {size : Nat} {v : Value} {n : Nat} {xs : List Value} (h : w.ownsRow base e size v n xs) : ∃ o cap, v = .slice o n cap := by
 rcases h.2 with ⟨rfl, rfl⟩ | ⟨g, cap, cur, rfl, _⟩
 ·exact ⟨_, _, rfl⟩
 ·exact ⟨_, _, rfl⟩
theorem tH (s : ByteArray) (w : World) (hs : s.size <= 1048576) :
 Calls Tryz.prog 71 #[.string s] w fun e w' => ∃ v, e = .returned (.tuple #[v, .bool (dP s.data.toList)]) /\ w'.ownsRow w.heap.size 122 4 v (cu s.data.toList).length (eV (cu s.data.toList)) /\ Below w.heap.size w w' := by
 by_cases hl : (1500 : Int) < s.size
 ·have HR := aa (qS s.data.toList (by rw [ai]; omega))
  have iT : ¬ (s.size : Int) <= 1500 := by omega
  go_enter Tryz.func71, Tryz.ntmps71
  go_wp2_with fail
  refine (pa s 0 _ (Or.inr (by unfold maxLen; omega)) (Nat.zero_le _)).mono ?_
  rintro e w1 ⟨p, rfl, hp0, hpn, -, -, rfl⟩
  go_wp2_with fail
  refine wp_loop_rounds 1 ?_
  rw [rounds_succ]
  by_cases au : (p : Int) < s.size
  all_goals
   go_wp2
   go_ret2
   refine ⟨.slice (some ⟨w.heap.size + 1, 0, none⟩) 0 0, eD ?_, ?_, ?_⟩
   ·rw [dP, HR.out]; rfl
   ·rw [cu, HR.out]
    exact BP w _
   ·exact ((U4 w).alloc U0 _).alloc (by simp) _
 have s8 : s.size <= 1500 := by omega
 go_enter Tryz.func71, Tryz.ntmps71
 go_wp2_with fail
 refine (pa s 0 _ (Or.inl s8) (Nat.zero_le _)).mono ?_
 rintro e w1 ⟨p, rfl, -, hpn, hlex0, hst0, rfl⟩
 have K6 := aa hlex0
 have Nj := aa hst0
 clear hlex0 hst0
 go_wp2_with fail
 go_loopw [4, 5, 6, 7, 8] (fun v t5 t6 t7 t8 wr => ∃ (a last ln bg : Nat) (ts : List TokP), t5 = .int .i64 ln /\ t6 = .int .i64 bg /\ t7 = .int .i64 last /\ t8 = .int .i64 a /\ wr.ownsRow w.heap.size 122 4 v ts.length (eV ts) /\ Below w.heap.size w wr /\ last <= a /\ a <= s.size /\ ts.length <= a /\ bg <= last /\ ln <= last + 1 /\ cd s.data.toList 0 = (cd s.data.toList a).map (ts ++ ·) /\ o6 s.data.toList a /\ ln = bN s.data.toList last /\ bg = db s.data.toList last) (fun _ _ _ _ t8 _ => s.size - (intOf t8).toNat)
 case atStart =>
  refine ⟨p, 0, 1, 0, [], rfl, rfl, rfl, rfl, da w _ 4, (U4 w).alloc U0 _, Nat.zero_le _, hpn, Nat.zero_le _, Nat.le_refl _, Nat.le_refl _, ?_, Nj.out, rfl, rfl⟩
  rw [map_nil]; exact K6.out
 case round =>
  obtain ⟨a, last, ln, bg, ts, rfl, rfl, rfl, rfl, hown, cA, hla, han, Da, ay, Ke, hlex, fE, tp, hbg⟩ := hrel
  obtain ⟨o, cap, rfl⟩ := ww hown
  have HO := aa hown
  have HB := aa cA
  have HX := aa hlex
  have HS := aa fE
  have ma := aa tp
  have rU := aa hbg
  clear hown cA hlex fE tp hbg
  obtain ⟨i0, hi, ll, iN, iM⟩ := info_parts pe
  by_cases au : a < s.size
  ·have bK : a < s.data.toList.length := by rw [ai]; exact au
   go_wp2_with fail
   refine (yU s a _ au s8).mono ?_
   rintro e w2 ⟨n, rfl, hn, bS⟩
   have HN := aa hn
   have oc := aa (jx HO.out bS)
   have bZ := aa (HB.out.trans (bS.mono HB.out.size))
   clear hn bS
   generalize wN : cr (s.data.toList.drop a) = kk
   rw [wN] at HN
   have vq := aa wN
   clear wN
   by_cases hk : kk = 0
   ·subst hk
    have HR := aa (AB _ a ts HX.out bK HS.out vq.out)
    go_wp2
    go_ret2
    refine ⟨.slice (some ⟨w2.heap.size, 0, none⟩) 0 0, eD ?_, ?_, ?_⟩
    ·rw [dP, HR.out]; rfl
    ·rw [cu, HR.out]
     exact fM (da w2 _ 4) bZ.out.size
    ·exact bZ.out.alloc bZ.out.size _
   ·have Jt : ((kk : Int) == 0) = false := by simp; omega
    by_cases hmany : (400 : Int) <= ts.length
    ·have HR := aa (vB _ a ts HX.out (by omega))
     go_wp2
     go_ret2
     refine ⟨.slice (some ⟨w2.heap.size, 0, none⟩) 0 0, eD ?_, ?_, ?_⟩
     ·rw [dP, HR.out]; rfl
     ·rw [cu, HR.out]
      exact fM (da w2 _ 4) bZ.out.size
     ·exact bZ.out.alloc bZ.out.size _
    ·have mQ := HN.out hk
     obtain ⟨iL, _⟩ := jH (s.data.toList.drop a) (dm _ a bK) (by rw [vq.out]; exact hk)
     have jn := eX (s.data.toList.drop a) (dm _ a bK)
     rw [<- mQ] at iL jn
     rw [List.length_drop, ai] at iL
     have za : a + n <= s.size := by omega
     have wM := aa mQ
     clear mQ iL
     have gx := aa (Em _ a ts HX.out bK HS.out (by rw [vq.out]; exact hk))
     have zl := aa (BG s a n wM.out)
     rw [vq.out] at zl
     go_wp2_with fail
     go_loop [5, 6, 11] (fun t5 t6 t11 => ∃ j ln bg : Nat, t5 = .int .i64 ln /\ t6 = .int .i64 bg /\ t11 = .int .i64 j /\ last <= j /\ j <= a /\ bg <= j /\ ln <= j + 1 /\ ln = bN s.data.toList j /\ bg = db s.data.toList j) (fun _ _ t11 => a - (intOf t11).toNat)
     case atStart => exact ⟨last, ln, bg, rfl, rfl, rfl, Nat.le_refl _, hla, ay, Ke, ma.out, rU.out⟩
     case round =>
      obtain ⟨j, ln2, bg2, rfl, rfl, rfl, hlj, hja, hbj, hlnj, hln2, hbg2⟩ := hrel
      have zj := aa hln2
      have Ie := aa hbg2
      clear hln2 hbg2
      by_cases hjlt : j < a
      ·have Hl : j < s.size := by omega
       have Qm : j < s.data.toList.length := by rw [ai]; exact Hl
       have hb := uO s[j] 10
       rw [show ((10 : UInt8).toNat : Int) = 10 from rfl] at hb
       cases hc : (s[j] == (10 : UInt8))
       ·rw [hc] at hb
        have HC : Hid (s.data.toList.getD j 0 ≠ 10) := by rw [bE s j Hl]; exact aa (by simpa using hc)
        clear hc
        go_wp2
        go_round
        case rel =>
         have iT := jZ Qm HC.out
         exact ⟨j + 1, ln2, bg2, rfl, rfl, by go_num, by omega, by omega, by omega, by omega, zj.out.trans iT.1.symm, Ie.out.trans iT.2.symm⟩
        case measure => simp [intOf]; omega
       ·rw [hc] at hb
        have HC : Hid (s.data.toList.getD j 0 = 10) := by rw [bE s j Hl]; exact aa (by simpa using hc)
        clear hc
        go_wp2
        go_round
        case rel =>
         have iT := oy Qm HC.out
         exact ⟨j + 1, ln2 + 1, j + 1, by go_num, by go_num, by go_num, by omega, by omega, by omega, by omega, by rw [iT.1, <- zj.out], iT.2.symm⟩
        case measure => simp [intOf]; omega
      ·have nO : j = a := by omega
       subst nO
       rw [<- zj.out, <- Ie.out] at zl
       have zC := ji s j n za
       have p9 := bZ.out.size
       go_wp2_with (at_builtin; refine wpList_append_own _ rfl (.tmp 58) (.tmp 72) 60 rfl w.heap.size 122 i0 _ 4 40 Tryz.underlying60 hi ll iN iM rfl (by decide) _ ts.length (eV ts) rfl (oc.out.alloc _) ⟨w2.heap.size, 0, none⟩ 1 1 [.int .i64 kk, .string (s.extract j (j + n)), .int .i64 ln2, .int .i64 ((j : Int) - bg2 + 1)] rfl rfl (jt w2 _ _ _ _ _) (nQ _ _ _ _) (by unfold maxLen; omega) (by omega) (jE p9 _) ?_)
       intro v' w3 hown5 hgrow _
       have qG := aa ((bZ.out.alloc p9 _).grown hgrow (jE p9 _) (fun k hk => (kA oc.out k hk).2))
       rw [<- zl.out, <- iF] at hown5
       have p8 := aa hown5
       clear hown5 hgrow
       go_wp2_with fail
       have hc := pa s (j + n) w3 (Or.inl s8) za
       rw [Int.natCast_add] at hc
       refine hc.mono ?_
       clear hc
       rintro e w4 ⟨p2, rfl, hp1, Kg, mY, jk, rfl⟩
       have jP := aa mY
       have Co := aa jk
       clear mY jk
       go_wp2
       go_roundw
       case rel =>
        have KJ : (ts ++ [jL s.data.toList j]).length = ts.length + 1 := by simp
        refine ⟨p2, j, ln2, bg2, ts ++ [jL s.data.toList j], rfl, rfl, rfl, rfl, ?_, qG.out, by omega, Kg, by rw [KJ]; omega, hbj, hlnj, ?_, Co.out, zj.out, Ie.out⟩
        ·rw [KJ]; exact p8.out
        ·rw [gx.out, <- wM.out, jP.out]
       case measure => simp [intOf]; omega
  ·have L5 : a = s.size := by omega
   have Je : Hid (cd s.data.toList 0 = some ts) := by
    refine aa ?_
    rw [HX.out, rP _ a (by rw [ai]; exact au)]
    simp
   by_cases hmany : (400 : Int) <= ts.length
   ·have HR := aa (nc _ _ Je.out (by omega))
    go_wp2
    go_ret2
    refine ⟨.slice (some ⟨wr.heap.size, 0, none⟩) 0 0, eD ?_, ?_, ?_⟩
    ·rw [dP, HR.out]; rfl
    ·rw [cu, HR.out]
     exact fM (da wr _ 4) HB.out.size
    ·exact HB.out.alloc HB.out.size _
   ·have HR := aa (rk _ _ (by rw [ai]; exact s8) Je.out (by omega))
    have p9 := HB.out.size
    go_wp2_with fail
    refine (yD s s.size _ U0 s8).mono ?_
    rintro e w2 ⟨rfl, rfl⟩
    have NC := pR s.data.toList s.size
    have P5 := mu s.data.toList s.size
    have Ho : Hid (gt ⟨6, [], bN s.data.toList s.data.toList.length, s.data.toList.length - db s.data.toList s.data.toList.length + 1⟩ = [.int .i64 6, .string ⟨#[]⟩, .int .i64 (bN s.data.toList s.size : Nat), .int .i64 ((s.size : Int) - (db s.data.toList s.size : Nat) + 1)]) := by
     refine aa ?_
     rw [gt, ai]
     simp only [List.cons.injEq, Value.int.injEq, true_and, and_true]
     first | omega | exact ⟨rfl, by omega⟩ | exact ⟨rfl, rfl, by omega⟩
    generalize bN s.data.toList s.size = lnE at *
    generalize db s.data.toList s.size = bgE at *
    go_wp2_with (at_builtin; refine wpList_append_own _ rfl (.tmp 93) (.tmp 97) 60 rfl w.heap.size 122 i0 _ 4 40 Tryz.underlying60 hi ll iN iM rfl (by decide) _ ts.length (eV ts) rfl (HO.out.alloc _) ⟨w2.heap.size, 0, none⟩ 1 1 [.int .i64 6, .string ⟨#[]⟩, .int .i64 lnE, .int .i64 ((s.size : Int) - bgE + 1)] rfl rfl (jt w2 _ _ _ _ _) (nQ _ _ _ _) (by unfold maxLen; omega) (by omega) (jE p9 _) ?_)
    intro v' w3 hown5 hgrow _
    have qG := aa ((HB.out.alloc p9 _).grown hgrow (jE p9 _) (fun k hk => (kA HO.out k hk).2))
    rw [<- Ho.out, <- iF] at hown5
    have p8 := aa hown5
    clear hown5 hgrow
    go_wp2
    go_ret2
    refine ⟨v', eD ?_, ?_, qG.out⟩
    ·rw [dP, HR.out]; rfl
    ·rw [cu, HR.out]
     show w3.ownsRow _ _ _ _ (ts ++ [_]).length (eV (ts ++ [_]))
     rw [List.length_append, List.length_singleton]
     exact p8.out
end Go.Proofs.YtfomndilhlgikajGreatDoor
namespace Go.Proofs.YtfomndilhlgikajGreatDoor
open Go.RowKit
theorem lc : (Tryz.prog.info? 122).map (fun i => (i.zero, i.size, i.bytes)) = some (some (.agg #[.int .i64 0, .string ⟨#[]⟩, .int .i64 0, .int .i64 0]), 4, 40) := by kernel_rfl
theorem mH : (Tryz.prog.info? 3).map (fun i => (i.zero, i.size, i.bytes)) = some (some (.int .i64 0), 1, 8) := by kernel_rfl
theorem nD (W : World) (a : Value) (t : TypeId) : ∀ (j : Nat) (u : Value), [a][j]? = some u -> (W.alloc (.cells #[a] t)).cell? ((⟨W.heap.size, 0, none⟩ : Addr).add j) = some u := by
 intro j u hj
 match j, hj with
 | 0, hj => simp at hj; subst hj; simp [Addr.add]
 | j + 1, hj => simp at hj
theorem lY (n : Int) : ∀ u ∈ [Value.int .i64 n], u.oneCell' = true := by
 intro u hu
 simp only [List.mem_cons, List.not_mem_nil, or_false] at hu
 subst hu
 rfl
theorem kM (W : World) (a b c d : Value) (t : TypeId) : ∀ (j : Nat) (u : Value), [a, b, c, d][j]? = some u -> (W.alloc (.cells #[a, b, c, d] t)).cell? ((⟨W.heap.size, 0, none⟩ : Addr).add j) = some u := by
 intro j u hj
 match j, hj with
 | 0, hj => simp at hj; subst hj; simp [Addr.add]
 | 1, hj => simp at hj; subst hj; simp [Addr.add]
 | 2, hj => simp at hj; subst hj; simp [Addr.add]
 | 3, hj => simp at hj; subst hj; simp [Addr.add]
 | j + 4, hj => simp at hj
theorem jG (k : Int) (t : ByteArray) (l c : Int) : ∀ u ∈ [Value.int .i64 k, .string t, .int .i64 l, .int .i64 c], u.oneCell' = true := by
 intro u hu
 simp only [List.mem_cons, List.not_mem_nil, or_false] at hu
 rcases hu with rfl | rfl | rfl | rfl <;> rfl
theorem kZ {w : World} {K : Nat -> Prop} {g : Nat} {out : List TokZ} {st : List Int} {wait bad : Bool} (h : SpecAt w K g out st wait bad) (hn : out.length + st.length <= 10000000) :
 Calls Tryz.prog 228 #[.pointer (some ⟨g, 0, none⟩)] w fun e w' => e = .returned (.int .i64 (st.head?.getD (-9))) /\ ∃ m, w' = w.drewN m := by
 obtain ⟨vo, vs, hg, hm⟩ := h
 have c1 := cell_of hg 1
 simp only [U7, U8, U9] at c1
 have HM := aa hm
 clear hm hg
 cases st with
 | nil =>
  obtain ⟨o, cap, rfl⟩ := HM.out.none_top
  go_enter Tryz.func228, Tryz.ntmps228
  go_wp2
  go_ret
  exact ⟨rfl, 0, rfl⟩
 | cons n st =>
  obtain ⟨b, cap, rfl, mZ, qm, hc, hb, -, -⟩ := HM.out.top
  have Mf : cap <= 9223372036854775807 := qm
  rw [List.length_cons] at hn
  go_enter Tryz.func228, Tryz.ntmps228
  go_wp2
  go_quiet (fail)
  go_wp2
  go_ret
  exact ⟨rfl, _, rfl⟩
theorem SpecAt.later {w w' : World} {K : Nat -> Prop} {g : Nat} {out : List TokZ} {st : List Int} {wait bad : Bool} (h : SpecAt w K g out st wait bad) (hb : Below w.heap.size w w') : SpecAt w' K g out st wait bad := by
 obtain ⟨vo, vs, hg, hm⟩ := h
 exact ⟨vo, vs, (hb.block g hm.gw).trans hg, hm.later hb⟩
theorem nT (w : World) (n m : Nat) : (w.drewN n).drewN m = w.drewN (n + m) := by
 unfold World.drewN
 simp [Nat.add_assoc]
theorem SpecAt.drewN {w : World} {K : Nat -> Prop} {g : Nat} {out : List TokZ} {st : List Int} {wait bad : Bool} (h : SpecAt w K g out st wait bad) (n : Nat) : SpecAt (w.drewN n) K g out st wait bad :=
 h.later (below_drewN (U4 _) n)
theorem gj {w : World} {K : Nat -> Prop} {g : Nat} {out : List TokZ} {st : List Int} {wait bad : Bool} (h : SpecAt w K g out st wait bad) (hn : out.length + st.length <= 10000000) (n : Nat) (x : Int) (hx : st.head?.getD (-9) = x) :
 Calls Tryz.prog 228 #[.pointer (some ⟨g, 0, none⟩)] (w.drewN n) fun e w' => e = .returned (.int .i64 x) /\ ∃ m, w' = w.drewN m := by
 subst hx
 refine (kZ (h.drewN n) hn).mono ?_
 rintro e w' ⟨rfl, m, rfl⟩
 exact ⟨rfl, n + m, nT w n m⟩
theorem lL {w : World} {K : Nat -> Prop} {g : Nat} {out : List TokZ} {st : List Int} {wait bad : Bool} (n : Int) (h : SpecAt w K g out st wait bad) (hn : out.length + st.length <= 10000000) :
 Calls Tryz.prog 176 #[.pointer (some ⟨g, 0, none⟩), .int .i64 n] w fun e w' => e = .returned (.tuple #[]) /\ SpecAt w' K g out (n :: st) wait bad /\ Keeps K w w' := by
 obtain ⟨vo, vs, hg, hm⟩ := h
 have c1 := cell_of hg 1
 simp only [U7, U8, U9] at c1
 have HM := aa hm
 have HG := aa hg
 clear hm hg
 obtain ⟨i0, hi, ll, iN, iM⟩ := info_parts mH
 go_enter Tryz.func176, Tryz.ntmps176
 go_wp2_with (at_builtin; refine wpList_append_own_at _ rfl (.tmp 8) (.tmp 10) 167 rfl 0 3 i0 _ 1 8 Tryz.underlying167 hi ll iN iM rfl (by decide) _ st.length (cP st) rfl (HM.out.alloc _).st ⟨w.heap.size, 0, none⟩ 1 1 [.int .i64 n] rfl rfl (nD w _ _) (lY n) (by unfold maxLen; omega) (by omega) (Nat.zero_le _) ?_)
 intro v' w' hown hgrow _ hb
 obtain ⟨o', cap', rfl⟩ := dU hown
 obtain ⟨jo, aL, dj⟩ := (HM.out.alloc _).push hown hgrow (by simpa using hb)
 rw [Below.heap_alloc w _ g HM.out.gw, HG.out] at dj
 have d1 := cell_of dj 1
 simp only [U7, U8, U9] at d1
 have f1 := aj dj 1
 have uW := aa jo
 have fh := aa aL
 have xK := aa dj
 clear jo aL dj hown hgrow hb c1
 go_wp2
 go_end0
 exact ⟨rfl, ⟨vo, _, ae _ xK.out, uW.out.set _ _⟩, (bH w _ HM.out.kw).trans (fh.out.trans (ak _ _ _ _ HM.out.kg))⟩
theorem gR {w : World} {K : Nat -> Prop} {g : Nat} {out : List TokZ} {st : List Int} {wait bad : Bool} (s : ByteArray) (h : SpecAt w K g out st wait bad) (hn : out.length + st.length <= 10000000) :
 Calls Tryz.prog 177 #[.pointer (some ⟨g, 0, none⟩), .string s] w fun e w' => e = .returned (.tuple #[]) /\ SpecAt w' K g (out ++ [bX s]) st wait bad /\ Keeps K w w' := by
 obtain ⟨vo, vs, hg, hm⟩ := h
 have c0 := cell_of hg 0
 simp only [List.getElem?_toArray, List.getElem?_cons_zero] at c0
 have HM := aa hm
 have HG := aa hg
 clear hm hg
 obtain ⟨i0, hi, ll, iN, iM⟩ := info_parts lc
 go_enter Tryz.func177, Tryz.ntmps177
 go_wp2_with (at_builtin; refine wpList_append_own_at _ rfl (.tmp 8) (.tmp 11) 60 rfl 0 122 i0 _ 4 40 Tryz.underlying60 hi ll iN iM rfl (by decide) _ out.length (iH out) rfl (HM.out.alloc _).out ⟨w.heap.size, 0, none⟩ 1 1 (iK (bX s)) rfl rfl (kM w _ _ _ _ _) (jG _ _ _ _) (by unfold maxLen; omega) (by omega) (Nat.zero_le _) ?_)
 intro v' w' hown hgrow _ hb
 obtain ⟨o', cap', rfl⟩ := dU hown
 obtain ⟨jo, aL, dj⟩ := (HM.out.alloc _).put hown hgrow (by simpa using hb)
 rw [Below.heap_alloc w _ g HM.out.gw, HG.out] at dj
 have d1 := cell_of dj 0
 simp only [List.getElem?_toArray, List.getElem?_cons_zero] at d1
 have f1 := aj dj 0
 have uW := aa jo
 have fh := aa aL
 have xK := aa dj
 clear jo aL dj hown hgrow hb c0
 go_wp2
 go_end0
 exact ⟨rfl, ⟨_, vs, ae _ xK.out, uW.out.set _ _⟩, (bH w _ HM.out.kw).trans (fh.out.trans (ak _ _ _ _ HM.out.kg))⟩
theorem dL {P : Program} {ops : Array Oper} {o : Oper} {a : Act} {w : World} {K : Act -> World -> Prop} {Q : Exit -> Act -> World -> Prop} {E : Prop}
 (hg : o.guard = none) (s x : Operand) (t : TypeId) (hop : o.op = Op.call { callee := Callee.builtin Builtin.append, args := #[s, x], argTypes := #[t, t] })
 (v1 v2 v' : Value) (w' : World) (hs : a.eval s = v1) (hx : a.eval x = v2) (hr : (Builtin.append_ #[t, t] o.type #[v1, v2]).run P w = .ok v' w')
 (hK : K (a.put o.dst v') w') : if Region.wanted o (yielded ops a.tmps) = true then Oper.wp P o a w K Q else E := by
 have hw : Region.wanted o (yielded ops a.tmps) = true := by simp [Region.wanted, hg]
 rw [if_pos hw]
 unfold Oper.wp
 simp [execOp, hop, resolve, invoke, builtin, hs, hx, hr, Result.andThen]
 exact hK
theorem Bv (b j : Nat) : (⟨b, 0, none⟩ : Addr).add j = ⟨b, j, none⟩ := by
 cases j <;> simp [Addr.add]
theorem vS (st : List Int) : ∀ u ∈ cP st, u.oneCell' = true := by
 intro u hu
 unfold cP at hu
 obtain ⟨x, -, rfl⟩ := List.mem_map.1 hu
 rfl
theorem DY (w : World) (b cap : Nat) (st : List Int) (hl : st.length <= 10000000) (hb : b < w.heap.size) (hc : ∀ j u, (cP st)[j]? = some u -> w.cell? ⟨b, j, none⟩ = some u) :
 ∃ o' n' cap' w', (Builtin.append_ #[167, 167] 167 #[.slice (some ⟨w.heap.size, 0, none⟩) 0 0, .slice (some ⟨b, 0, none⟩) st.length cap]).run Tryz.prog (w.alloc (.cells #[] 3)).drew = .ok (.slice o' n' cap') w' /\ w'.ownsRow w.heap.size 3 1 (.slice o' n' cap') st.length (cP st) /\ Below w.heap.size w w' := by
 obtain ⟨i0, hi, ll, iN, iM⟩ := info_parts mH
 obtain ⟨v', w', hr, hown, lI, -, -⟩ := run_append_own_at (P := Tryz.prog) (w.alloc (.cells #[] 3)).drew w.heap.size 167 167 3 i0 _ 1 8 Tryz.underlying167 hi ll iN iM rfl (by decide) (.slice (some ⟨w.heap.size, 0, none⟩) 0 0) 0 [] (ib w 3 1) ⟨b, 0, none⟩ st.length cap (cP st) (by rw [dR, Nat.mul_one])
  (fun j u hj => by
   rw [Bv]
   have h1 := (bH (K := (· < w.heap.size)) w (.cells #[] 3) fun k h => h).below.cell (p := ⟨b, j, none⟩) hb
   exact h1.trans (hc j u hj)) (vS st) (by unfold maxLen; omega) (by omega) (by show w.heap.size <= (w.alloc _).heap.size; simp)
 rw [Nat.zero_add, List.nil_append] at hown
 obtain ⟨o', cap', rfl⟩ := dU hown
 refine ⟨o', _, cap', w', hr, hown, ?_⟩
 have h1 := (bH (K := (· < w.heap.size)) w (.cells #[] 3) fun k h => h).below.drew
 have h2 := ku (K := (· < w.heap.size)) lI (fun k hk => by show k < (w.alloc _).heap.size; simp; omega) (fun k hk => by have : w.heap.size = k := Option.some.inj hk; show ¬ k < w.heap.size; omega)
 exact h1.trans h2.below
theorem nA {w : World} {K : Nat -> Prop} {g : Nat} {out : List TokZ} {st : List Int} {n : Int} {wait bad : Bool} (h : SpecAt w K g out (n :: st) wait bad) (hn : out.length + (n :: st).length <= 10000000) :
 Calls Tryz.prog 229 #[.pointer (some ⟨g, 0, none⟩)] w fun e w' => e = .returned (.tuple #[]) /\ SpecAt w' K g out st wait bad /\ Keeps K w w' := by
 obtain ⟨vo, vs, hg, hm⟩ := h
 obtain ⟨b, cap, rfl, mZ, qm, -, hb, hcells, zv⟩ := hm.top
 have c1 := cell_of hg 1
 simp only [U7, U8, U9] at c1
 have HM := aa hm
 have Re := aa zv
 have HG := aa hg
 have HC := aa hcells
 clear hm hg hcells zv
 have oI : g < w.heap.size := HM.out.gw
 have Mf : cap <= 9223372036854775807 := qm
 rw [List.length_cons] at hn
 obtain ⟨o', n', cap', w', hr, hown, hbel⟩ := DY w b cap st (by omega) hb HC.out
 obtain ⟨jo, aL, dj⟩ := HM.out.anew hown hbel
 rw [HG.out] at dj
 have d1 := cell_of dj 1
 simp only [U7, U8, U9] at d1
 have f1 := aj dj 1
 have uW := aa jo
 have fh := aa aL
 have xK := aa dj
 have HR := aa hr
 clear jo aL dj hown hbel hr
 have CO : IntKind.i64.wrap (st.length : Int) = st.length := by rw [IntKind.wrap_i64]; omega
 have Fo : (st.length : Int) <= cap := by omega
 have Q4 : (0 : Int) <= st.length := by omega
 go_enter Tryz.func229, Tryz.ntmps229
 go_wp2
 go_region_law (refine dL rfl (.tmp 3) (.tmp 14) 167 rfl (.slice (some ⟨w.heap.size, 0, none⟩) 0 0) (.slice (some ⟨b, 0, none⟩) st.length cap) (.slice o' n' cap') w' (by simp [Act.eval, Act.put]) (by simp [Act.eval, Act.put]) HR.out ?_)
 all_goals
  go_end0
  exact ⟨rfl, ⟨vo, _, ae _ xK.out, uW.out.set _ _⟩, fh.out.trans (ak _ _ _ _ HM.out.kg)⟩
theorem kE (m n : Int) (l : List Int) : gE m (l ++ [n]) = if gE m l < n then n else gE m l := by
 induction l generalizing m with
 | nil => rfl
 | cons h r ih => exact ih _
theorem lO (st : List Int) (i : Nat) (n : Int) (h : st.reverse[i]? = some n) : (cP st)[i]? = some (.int .i64 n) := by
 unfold cP
 rw [List.getElem?_map, h]
 rfl
theorem LayMem.cells {w : World} {K : Nat -> Prop} {g : Nat} {vo vs : Value} {out : List TokZ} {st : List Int} (h : LayMem w K g vo vs out st) :
 ∃ o b cap, vs = .slice o st.length cap /\ (st ≠ [] -> o = some ⟨b, 0, none⟩ /\ b < w.heap.size) /\ ∀ i n, st.reverse[i]? = some n -> w.cell? ⟨b, i, none⟩ = some (.int .i64 n) := by
 cases st with
 | nil =>
  obtain ⟨o, cap, rfl⟩ := h.none_top
  exact ⟨o, 0, cap, rfl, fun h => absurd rfl h, fun i n hi => by simp at hi⟩
 | cons x st =>
  obtain ⟨hl, hc⟩ := h.st
  rcases hc with ⟨_, h0⟩ | ⟨b, cap, cur, hv, hb, hg, hn, vc, cI, oq⟩
  ·cases h0
  ·refine ⟨some ⟨b, 0, none⟩, b, cap, hv, fun _ => ⟨rfl, ad hg⟩, fun i n hi => ?_⟩
   have au : i < (x :: st).length := by
    have := (List.getElem?_eq_some_iff.1 hi).1
    rwa [List.length_reverse] at this
   exact fN hg oq i (by omega) _ (lO _ i n hi)
theorem sv {w : World} {K : Nat -> Prop} {g : Nat} {out : List TokZ} {st : List Int} {wait bad : Bool} (h : SpecAt w K g out st wait bad) (hn : out.length + st.length <= 10000000) :
 Calls Tryz.prog 178 #[.pointer (some ⟨g, 0, none⟩)] w fun e w' => e = .returned (.int .i64 (gD st)) /\ w' = w := by
 obtain ⟨vo, vs, hg, hm⟩ := h
 have c1 := cell_of hg 1
 simp only [U7, U8, U9] at c1
 obtain ⟨o, b, cap, rfl, ho, dF⟩ := hm.cells
 have HO := aa ho
 have zk := aa dF
 have gJ := aa c1
 clear hm hg ho dF c1
 go_enter Tryz.func178, Tryz.ntmps178
 go_wp2
 go_loopw [3, 4] (fun t3 t4 wr => ∃ (i : Nat) (m : Int), i <= st.length /\ t4 = .int .i64 i /\ t3 = .int .i64 m /\ m = gE 0 (st.reverse.take i) /\ wr = w) (fun _ t4 _ => st.length - (intOf t4).toNat)
 case atStart => exact ⟨0, 0, Nat.zero_le _, rfl, rfl, rfl, rfl⟩
 case round =>
  obtain ⟨i, m, hi, rfl, rfl, hmm, rfl⟩ := hrel
  have c1 := gJ.out
  have Kq := aa hmm
  clear hmm
  by_cases au : i < st.length
  ·have bU : st ≠ [] := by intro e; rw [e] at au; simp at au
   obtain ⟨ho, hb⟩ := HO.out bU
   subst ho
   obtain ⟨n, mQ⟩ : ∃ n, st.reverse[i]? = some n := ⟨st.reverse[i]'(by rw [List.length_reverse]; exact au), List.getElem?_eq_getElem _⟩
   have ci := zk.out i n mQ
   have qj : st.reverse.take (i + 1) = st.reverse.take i ++ [n] := by rw [List.take_add_one, mQ]; rfl
   have B9 : Hid (gE 0 (st.reverse.take (i + 1)) = if m < n then n else m) := by rw [qj, kE, <- Kq.out]; rfl
   clear bU mQ qj
   have fX : (i : Int) < st.length := by omega
   by_cases tb : m < n
   ·rw [if_pos tb] at B9
    go_wp2
    refine ⟨⟨i + 1, n, by omega, by go_num, rfl, B9.out.symm, trivial⟩, by simp [intOf]; omega⟩
   ·rw [if_neg tb] at B9
    go_wp2
    refine ⟨⟨i + 1, m, by omega, by go_num, rfl, B9.out.symm, trivial⟩, by simp [intOf]; omega⟩
  ·go_wp2
   go_ret
   have jQ : i = st.length := by omega
   subst jQ
   have h := Kq.out
   rw [List.take_of_length_le (by rw [List.length_reverse]; exact Nat.le_refl _)] at h
   refine ⟨?_, rfl⟩
   rw [gD, <- h]
   rfl
theorem kb {w : World} {K : Nat -> Prop} {g : Nat} {out : List TokZ} {st : List Int} {wait bad : Bool} (h : SpecAt w K g out st wait bad) (hn : out.length + st.length <= 10000000) (n : Nat) (x : Int) (hx : gD st = x) :
 Calls Tryz.prog 178 #[.pointer (some ⟨g, 0, none⟩)] (w.drewN n) fun e w' => e = .returned (.int .i64 x) /\ ∃ m, w' = w.drewN m := by
 subst hx
 refine (sv (h.drewN n) hn).mono ?_
 rintro e w' ⟨rfl, rfl⟩
 exact ⟨rfl, n, rfl⟩
theorem uQ (t : TokZ) (w : World) :
 Calls Tryz.prog 227 #[fS t] w fun e w' => e = .returned (.int .i64 (bi t)) /\ Below w.heap.size w w' := by
 have aF : Hid ((w.alloc (.cells #[.int .i64 t.k, .string t.s, .int .i64 t.l, .int .i64 t.c] 122)).heap[w.heap.size]? = some (.cells #[.int .i64 t.k, .string t.s, .int .i64 t.l, .int .i64 t.c] 122 (0, 0))) := heap_alloc_new w _
 have aq : Hid (Below w.heap.size w (w.alloc (.cells #[.int .i64 t.k, .string t.s, .int .i64 t.l, .int .i64 t.c] 122))) := (U4 w).alloc U0 _
 unfold fS
 go_enter Tryz.func227, Tryz.ntmps227
 go_wp2_with fail
 rw [aU]
 refine (ev t 5 ⟨#[41]⟩ _).mono ?_
 rintro e w1 ⟨rfl, hb⟩
 have aK := aa ((hb.block w.heap.size (ad aF.out)).trans aF.out)
 have aR := aa (aq.out.trans (hb.mono aq.out.size))
 clear hb
 have c0 := cell_of aK.out 0
 have c1 := cell_of aK.out 1
 have c2 := cell_of aK.out 2
 have c3 := cell_of aK.out 3
 simp only [U7, U8, U9] at c0 c1 c2 c3
 cases hI : dq t 5 ⟨#[41]⟩
 rotate_left
 ·have iV := aa hI
  clear hI
  go_wp2
  go_ret
  exact ⟨by unfold bi; rw [iV.out]; rfl, aR.out⟩
 have iV := aa hI
 clear hI
 go_wp2_with fail
 rw [aU]
 refine (ev t 4 ⟨#[105, 110]⟩ _).mono ?_
 rintro e w2 ⟨rfl, hb⟩
 have gx := aa ((hb.block w.heap.size (ad aK.out)).trans aK.out)
 have bD := aa (aR.out.trans (hb.mono aR.out.size))
 clear hb
 have c0 := cell_of gx.out 0
 have c1 := cell_of gx.out 1
 have c2 := cell_of gx.out 2
 have c3 := cell_of gx.out 3
 simp only [U7, U8, U9] at c0 c1 c2 c3
 cases hI : dq t 4 ⟨#[105, 110]⟩
 rotate_left
 ·have iO := aa hI
  clear hI
  go_wp2
  go_ret
  exact ⟨by unfold bi; rw [iV.out, iO.out]; rfl, bD.out⟩
 have iO := aa hI
 clear hI
 go_wp2_with fail
 rw [aU]
 refine (ev t 4 ⟨#[116, 104, 101, 110]⟩ _).mono ?_
 rintro e w3 ⟨rfl, hb⟩
 have jP := aa ((hb.block w.heap.size (ad gx.out)).trans gx.out)
 have dc := aa (bD.out.trans (hb.mono bD.out.size))
 clear hb
 have c0 := cell_of jP.out 0
 have c1 := cell_of jP.out 1
 have c2 := cell_of jP.out 2
 have c3 := cell_of jP.out 3
 simp only [U7, U8, U9] at c0 c1 c2 c3
 cases hI : dq t 4 ⟨#[116, 104, 101, 110]⟩
 rotate_left
 ·have mg := aa hI
  clear hI
  go_wp2
  go_ret
  exact ⟨by unfold bi; rw [iV.out, iO.out, mg.out]; rfl, dc.out⟩
 have mg := aa hI
 clear hI
 go_wp2_with fail
 rw [aU]
 refine (ev t 4 ⟨#[101, 108, 115, 101]⟩ _).mono ?_
 rintro e w4 ⟨rfl, hb⟩
 have mh := aa ((hb.block w.heap.size (ad jP.out)).trans jP.out)
 have me := aa (dc.out.trans (hb.mono dc.out.size))
 clear hb
 have c0 := cell_of mh.out 0
 have c1 := cell_of mh.out 1
 have c2 := cell_of mh.out 2
 have c3 := cell_of mh.out 3
 simp only [U7, U8, U9] at c0 c1 c2 c3
 cases hI : dq t 4 ⟨#[101, 108, 115, 101]⟩
 rotate_left
 ·have qi := aa hI
  clear hI
  go_wp2
  go_ret
  exact ⟨by unfold bi; rw [iV.out, iO.out, mg.out, qi.out]; rfl, me.out⟩
 have qi := aa hI
 clear hI
 go_wp2_with fail
 rw [aU]
 refine (ev t 4 ⟨#[111, 102]⟩ _).mono ?_
 rintro e w5 ⟨rfl, hb⟩
 have zc := aa ((hb.block w.heap.size (ad mh.out)).trans mh.out)
 have tq := aa (me.out.trans (hb.mono me.out.size))
 clear hb
 have c0 := cell_of zc.out 0
 have c1 := cell_of zc.out 1
 have c2 := cell_of zc.out 2
 have c3 := cell_of zc.out 3
 simp only [U7, U8, U9] at c0 c1 c2 c3
 cases hI : dq t 4 ⟨#[111, 102]⟩
 rotate_left
 ·have zH := aa hI
  clear hI
  go_wp2
  go_ret
  exact ⟨by unfold bi; rw [iV.out, iO.out, mg.out, qi.out, zH.out]; rfl, tq.out⟩
 have zH := aa hI
 clear hI
 go_wp2_with fail
 rw [aU]
 refine (ev t 5 ⟨#[125]⟩ _).mono ?_
 rintro e w6 ⟨rfl, hb⟩
 have Ik := aa ((hb.block w.heap.size (ad zc.out)).trans zc.out)
 have Jq := aa (tq.out.trans (hb.mono tq.out.size))
 clear hb
 have c0 := cell_of Ik.out 0
 have c1 := cell_of Ik.out 1
 have c2 := cell_of Ik.out 2
 have c3 := cell_of Ik.out 3
 simp only [U7, U8, U9] at c0 c1 c2 c3
 cases hI : dq t 5 ⟨#[125]⟩
 rotate_left
 ·have Oi := aa hI
  clear hI
  go_wp2
  go_ret
  exact ⟨by unfold bi; rw [iV.out, iO.out, mg.out, qi.out, zH.out, Oi.out]; rfl, Jq.out⟩
 have Oi := aa hI
 clear hI
 go_wp2
 go_ret
 exact ⟨by unfold bi; rw [iV.out, iO.out, mg.out, qi.out, zH.out, Oi.out]; rfl, Jq.out⟩
theorem ia {t : TokZ} {w w1 : World} {l : List Int} (h : l = bp t) (hb : Below w.heap.size w w1) :
 ∃ v, (Ending.returned (.slice (some ⟨w1.heap.size, 0, none⟩) l.length l.length) = .returned v) /\ (∃ b, v = .slice (some ⟨b, 0, none⟩) (bp t).length (bp t).length /\ w.heap.size <= b /\ (w1.alloc (.cells (l.map fun n => .int .i64 n).toArray 3)).heap[b]? = some (.cells ((bp t).map fun n => .int .i64 n).toArray 3 (0, 0))) /\ Below w.heap.size w (w1.alloc (.cells (l.map fun n => .int .i64 n).toArray 3)) := by
 subst h
 exact ⟨_, rfl, ⟨w1.heap.size, rfl, hb.size, heap_alloc_new w1 _⟩, hb.alloc hb.size _⟩
theorem uB (t : TokZ) (w : World) :
 Calls Tryz.prog 230 #[fS t] w fun e w' => ∃ v, e = .returned v /\ (∃ b, v = .slice (some ⟨b, 0, none⟩) (bp t).length (bp t).length /\ w.heap.size <= b /\ w'.heap[b]? = some (.cells ((bp t).map fun n => .int .i64 n).toArray 3 (0, 0))) /\ Below w.heap.size w w' := by
 have aF : Hid ((w.alloc (.cells #[.int .i64 t.k, .string t.s, .int .i64 t.l, .int .i64 t.c] 122)).heap[w.heap.size]? = some (.cells #[.int .i64 t.k, .string t.s, .int .i64 t.l, .int .i64 t.c] 122 (0, 0))) := heap_alloc_new w _
 have aq : Hid (Below w.heap.size w (w.alloc (.cells #[.int .i64 t.k, .string t.s, .int .i64 t.l, .int .i64 t.c] 122))) := (U4 w).alloc U0 _
 unfold fS
 go_enter Tryz.func230, Tryz.ntmps230
 go_wp2_with fail
 rw [aU]
 refine (ev t 5 ⟨#[40]⟩ _).mono ?_
 rintro e w1 ⟨rfl, hb⟩
 have aK := aa ((hb.block w.heap.size (ad aF.out)).trans aF.out)
 have aR := aa (aq.out.trans (hb.mono aq.out.size))
 clear hb
 have c0 := cell_of aK.out 0
 have c1 := cell_of aK.out 1
 have c2 := cell_of aK.out 2
 have c3 := cell_of aK.out 3
 simp only [U7, U8, U9] at c0 c1 c2 c3
 cases hI : dq t 5 ⟨#[40]⟩
 rotate_left
 ·have iV := aa hI
  clear hI
  go_wp2
  go_ret
  exact ia (by unfold bp; rw [iV.out]) aR.out
 have iV := aa hI
 clear hI
 go_wp2_with fail
 rw [aU]
 refine (ev t 4 ⟨#[108, 101, 116]⟩ _).mono ?_
 rintro e w2 ⟨rfl, hb⟩
 have gx := aa ((hb.block w.heap.size (ad aK.out)).trans aK.out)
 have bD := aa (aR.out.trans (hb.mono aR.out.size))
 clear hb
 have c0 := cell_of gx.out 0
 have c1 := cell_of gx.out 1
 have c2 := cell_of gx.out 2
 have c3 := cell_of gx.out 3
 simp only [U7, U8, U9] at c0 c1 c2 c3
 cases hI : dq t 4 ⟨#[108, 101, 116]⟩
 rotate_left
 ·have iO := aa hI
  clear hI
  go_wp2
  go_ret
  exact ia (by unfold bp; rw [iV.out, iO.out]) bD.out
 have iO := aa hI
 clear hI
 go_wp2_with fail
 rw [aU]
 refine (ev t 4 ⟨#[105, 102]⟩ _).mono ?_
 rintro e w3 ⟨rfl, hb⟩
 have jP := aa ((hb.block w.heap.size (ad gx.out)).trans gx.out)
 have dc := aa (bD.out.trans (hb.mono bD.out.size))
 clear hb
 have c0 := cell_of jP.out 0
 have c1 := cell_of jP.out 1
 have c2 := cell_of jP.out 2
 have c3 := cell_of jP.out 3
 simp only [U7, U8, U9] at c0 c1 c2 c3
 cases hI : dq t 4 ⟨#[105, 102]⟩
 rotate_left
 ·have mg := aa hI
  clear hI
  go_wp2
  go_ret
  exact ia (by unfold bp; rw [iV.out, iO.out, mg.out]) dc.out
 have mg := aa hI
 clear hI
 go_wp2_with fail
 rw [aU]
 refine (ev t 4 ⟨#[99, 97, 115, 101]⟩ _).mono ?_
 rintro e w4 ⟨rfl, hb⟩
 have mh := aa ((hb.block w.heap.size (ad jP.out)).trans jP.out)
 have me := aa (dc.out.trans (hb.mono dc.out.size))
 clear hb
 have c0 := cell_of mh.out 0
 have c1 := cell_of mh.out 1
 have c2 := cell_of mh.out 2
 have c3 := cell_of mh.out 3
 simp only [U7, U8, U9] at c0 c1 c2 c3
 cases hI : dq t 4 ⟨#[99, 97, 115, 101]⟩
 rotate_left
 ·have qi := aa hI
  clear hI
  go_wp2
  go_ret
  exact ia (by unfold bp; rw [iV.out, iO.out, mg.out, qi.out]) me.out
 have qi := aa hI
 clear hI
 go_wp2
 go_ret
 exact ia (by unfold bp; rw [iV.out, iO.out, mg.out, qi.out]) me.out
theorem SpecAt.box {w : World} {K : Nat -> Prop} {g : Nat} {out : List TokZ} {st : List Int} {wait bad : Bool} (h : SpecAt w K g out st wait bad) (o : Obj) : SpecAt (w.alloc o) (fun k => K k \/ k = w.heap.size) g out st wait bad := by
 obtain ⟨vo, vs, hg, hm⟩ := h
 have h2 := hm.alloc o
 have oI := hm.gw
 refine ⟨vo, vs, (Below.heap_alloc w o g hm.gw).trans hg, h2.more (fun k hk => ?_) (fun hk => ?_) (fun k hk hK => ?_) (fun k hk hK => ?_)⟩
 ·rcases hk with hk | rfl
  ·exact h2.kw k hk
  ·simp
 ·rcases hk with hk | e
  ·exact hm.kg hk
  ·omega
 ·rcases hK with hK | e
  ·exact hm.ko k hk hK
  ·have := (cK hm.out k hk).1
   omega
 ·rcases hK with hK | e
  ·exact hm.ks k hk hK
  ·have := (cK hm.st k hk).1
   omega
theorem SpecAt.less {w : World} {K K' : Nat -> Prop} {g : Nat} {out : List TokZ} {st : List Int} {wait bad : Bool} (h : SpecAt w K' g out st wait bad) (hk : ∀ k, K k -> K' k) : SpecAt w K g out st wait bad := by
 obtain ⟨vo, vs, hg, hm⟩ := h
 exact ⟨vo, vs, hg, hm.more (fun k h => hm.kw k (hk k h)) (fun h => hm.kg (hk _ h)) (fun k h1 h2 => hm.ko k h1 (hk k h2)) (fun k h1 h2 => hm.ks k h1 (hk k h2))⟩
def mA (w : World) (g : Nat) : Nat := match w.cell? ⟨g, 1, none⟩ with | some (.slice _ n _) => n | _ => 0
theorem SpecAt.len {w : World} {K : Nat -> Prop} {g : Nat} {out : List TokZ} {st : List Int} {wait bad : Bool} (h : SpecAt w K g out st wait bad) : mA w g = st.length := by
 obtain ⟨vo, vs, hg, hm⟩ := h
 have c1 := cell_of hg 1
 obtain ⟨o, cap, rfl⟩ := hm.none_top
 unfold mA
 rw [c1]
 rfl
theorem SpecAt.stack {w : World} {K : Nat -> Prop} {g : Nat} {out : List TokZ} {st : List Int} {wait bad : Bool} (h : SpecAt w K g out st wait bad) : ∃ o cap, w.cell? ⟨g, 1, none⟩ = some (.slice o st.length cap) := by
 obtain ⟨vo, vs, hg, hm⟩ := h
 have c1 := cell_of hg 1
 obtain ⟨o, cap, rfl⟩ := hm.none_top
 exact ⟨o, cap, c1⟩
theorem kf (K : Nat -> Prop) (w : World) (n : Nat) : Keeps K w (w.drewN n) := ⟨rfl, rfl, rfl, Nat.le_refl _, fun _ _ => rfl⟩
theorem Keeps.drewN {K : Nat -> Prop} {w w' : World} (h : Keeps K w w') (n : Nat) : Keeps K w (w'.drewN n) := h.trans (kf K w' n)
def aN (t : TokZ) : Obj := .cells #[.int .i64 t.k, .string t.s, .int .i64 t.l, .int .i64 t.c] 122 (0, 0)
theorem aA {w : World} {b : Nat} {t : TokZ} (h : w.heap[b]? = some (aN t)) : pF w b 0 t := ⟨cell_of h 0, cell_of h 1, cell_of h 2, cell_of h 3⟩
theorem vz {w : World} {K : Nat -> Prop} {g : Nat} {out : List TokZ} {st : List Int} {wait bad : Bool} (t : TokZ) (h : SpecAt w K g out st wait bad) (hn : out.length + st.length <= 9000000) :
 Calls Tryz.prog 180 #[.pointer (some ⟨g, 0, none⟩), fS t] w fun e w' => e = .returned (.tuple #[]) /\ SpecAt w' K g (cB st out t).2 (cB st out t).1 wait bad /\ Keeps K w w' := by
 have QB : ∀ k, K k -> k < w.heap.size := by obtain ⟨vo, vs, hg, hm⟩ := h; exact hm.kw
 have qM := aa (bH w (aN t) QB)
 have kH := aa (h.box (aN t))
 have aF := aa (heap_alloc_new w (aN t))
 clear h QB
 unfold fS
 go_enter Tryz.func180, Tryz.ntmps180
 go_wp2
 go_loopw [] (fun wr => ∃ (st' : List Int) (out' : List TokZ), bk t.c st out = bk t.c st' out' /\ out'.length + st'.length <= 9000000 /\ SpecAt wr (fun k => K k \/ k = w.heap.size) g out' st' wait bad /\ Keeps (fun k => K k \/ k = w.heap.size) (w.alloc (aN t)) wr) (fun wr => mA wr g)
 case atStart => exact ⟨st, out, rfl, hn, kH.out, Keeps.refl _ _⟩
 case round =>
  obtain ⟨st', out', sZ, Hv, hS, hK⟩ := hrel
  have zb := aa sZ
  have HS := aa hS
  have HK := aa hK
  obtain ⟨o1, cap1, c1⟩ := hS.stack
  have HX := aa ((hK.block w.heap.size (Or.inr rfl)).trans aF.out)
  obtain ⟨x0, x1, x2, x3⟩ := aA HX.out
  have Cy := aa hS.len
  clear sZ hS hK
  cases st' with
  | nil =>
   simp only [List.length_nil] at c1
   have HL : Hid (cB st out t = ([], out')) := by
    show cB st out t = ([], out')
    unfold cB
    rw [zb.out]
    rfl
   go_wp2
   go_quiet (fail)
   go_wp2
   go_quiet (fail)
   go_wp2
   go_end0
   refine ⟨rfl, ?_, ?_⟩
   ·rw [HL.out]
    exact ((HS.out.drewN _).drewN _).less fun k hk => Or.inl hk
   ·exact qM.out.trans (((HK.out.drewN _).drewN _).mono fun k hk => Or.inl hk)
  | cons h r =>
   simp only [List.length_cons] at c1 Hv
   have NC : (0 : Int) < (r.length : Int) + 1 := by omega
   by_cases tb : t.c < h
   ·have eH : Hid (bk t.c st out = bk t.c r (out' ++ [bX fG])) := by
     show bk t.c st out = bk t.c r (out' ++ [bX fG])
     rw [zb.out]
     unfold bk
     rw [if_pos tb]
     cases r <;> rfl
    go_wp2
    go_quiet ((go_at_call 228; refine gj HS.out (by simp only [List.length_cons]; omega) _ h rfl))
    go_wp2_with fail
    refine (nA (HS.out.drewN _) (by simp only [List.length_cons]; omega)).mono ?_
    rintro e w2 ⟨rfl, jr, aL⟩
    have lm := aa jr
    have fh := aa ((HK.out.drewN _).trans aL)
    clear jr aL
    go_wp2_with fail
    refine (gR ⟨#[125]⟩ lm.out (by omega)).mono ?_
    rintro e w3 ⟨rfl, eP, d9⟩
    have lr := aa eP
    have fA := aa (fh.out.trans d9)
    clear eP d9
    go_wp2
    refine ⟨⟨r, out' ++ [bX fG], eH.out, by rw [List.length_append]; simp only [List.length_cons, List.length_nil]; omega, lr.out, fA.out⟩, ?_⟩
    rw [lr.out.len, Cy.out]
    exact Nat.lt_succ_self _
   ·have eH : Hid (bk t.c st out = (h :: r, out')) := by
     show bk t.c st out = (h :: r, out')
     rw [zb.out]
     unfold bk
     rw [if_neg tb]
    by_cases lj : h = t.c
    ·have HL : Hid (cB st out t = (h :: r, out' ++ [bX pW])) := by
      show cB st out t = (h :: r, out' ++ [bX pW])
      unfold cB
      rw [eH.out, lj]
      simp
     have hb : (h == t.c) = true := by simp [lj]
     clear lj
     go_wp2
     go_quiet ((go_at_call 228; refine gj HS.out (by simp only [List.length_cons]; omega) _ h rfl))
     have IU := aa (HS.out.drewN nq)
     have KB := aa (HK.out.drewN nq)
     have NI : (wr.drewN nq).cell? ⟨g, 1, none⟩ = some (.slice o1 (r.length + 1) cap1) := c1
     have O7 : (wr.drewN nq).cell? ⟨w.heap.size, 0 + 3, none⟩ = some (.int .i64 t.c) := x3
     generalize wr.drewN nq = wq at IU KB NI O7 ⊢
     go_wp2
     go_quiet ((go_at_call 228; refine gj IU.out (by simp only [List.length_cons]; omega) _ h rfl))
     go_wp2_with fail
     refine (gR ⟨#[59]⟩ (IU.out.drewN _) (by simp only [List.length_cons]; omega)).mono ?_
     rintro e w3 ⟨rfl, eP, d9⟩
     have lr := aa eP
     have fA := aa ((KB.out.drewN _).trans d9)
     clear eP d9
     go_wp2
     go_end0
     refine ⟨rfl, ?_, ?_⟩
     ·rw [HL.out]
      exact lr.out.less fun k hk => Or.inl hk
     ·exact qM.out.trans (fA.out.mono fun k hk => Or.inl hk)
    ·have HL : Hid (cB st out t = (h :: r, out')) := by
      show cB st out t = (h :: r, out')
      unfold cB
      rw [eH.out]
      simp [lj]
     have hb : (h == t.c) = false := by simp [lj]
     clear lj
     go_wp2
     go_quiet ((go_at_call 228; refine gj HS.out (by simp only [List.length_cons]; omega) _ h rfl))
     have IU := aa (HS.out.drewN nq)
     have KB := aa (HK.out.drewN nq)
     have NI : (wr.drewN nq).cell? ⟨g, 1, none⟩ = some (.slice o1 (r.length + 1) cap1) := c1
     have O7 : (wr.drewN nq).cell? ⟨w.heap.size, 0 + 3, none⟩ = some (.int .i64 t.c) := x3
     generalize wr.drewN nq = wq at IU KB NI O7 ⊢
     go_wp2
     go_quiet ((go_at_call 228; refine gj IU.out (by simp only [List.length_cons]; omega) _ h rfl))
     go_wp2
     go_end0
     refine ⟨rfl, ?_, ?_⟩
     ·rw [HL.out]
      exact (IU.out.drewN _).less fun k hk => Or.inl hk
     ·exact qM.out.trans ((KB.out.drewN _).mono fun k hk => Or.inl hk)
end Go.Proofs.YtfomndilhlgikajGreatDoor
namespace Go.Proofs.YtfomndilhlgikajGreatDoor
open Go.RowKit
def SpecRes (w : World) (K : Nat -> Prop) (g : Nat) : Option (List Int × List TokZ × Bool) -> Prop
 | none => ∃ st out wait, SpecAt w K g out st wait true
 | some (a, b, c) => SpecAt w K g b a c false
theorem SpecAt.kw {w : World} {K : Nat -> Prop} {g : Nat} {out : List TokZ} {st : List Int} {wait bad : Bool} (h : SpecAt w K g out st wait bad) : ∀ k, K k -> k < w.heap.size := by
 obtain ⟨vo, vs, hg, hm⟩ := h
 exact hm.kw
def aT (st : List Int) (out : List TokZ) (t : TokZ) : List Int × List TokZ := if bT t = true then bk 0 st out else (st, out)
theorem tV (c : Int) (st : List Int) (out : List TokZ) (h : ¬ c < st.head?.getD (-9)) : bk c st out = (st, out) := by
 cases st with
 | nil => rfl
 | cons x r =>
  unfold bk
  rw [if_neg (show ¬ c < x from h)]
theorem ul (c : Int) (h : Int) (r : List Int) (out : List TokZ) (hc : c < h) : bk c (h :: r) out = bk c r (out ++ [bX fG]) := by
 rw [bk, if_pos hc]
theorem kt (st : List Int) (out : List TokZ) (t : TokZ) : (aT st out t).1.length + (aT st out t).2.length = st.length + out.length := by
 unfold aT
 split
 ·exact ig 0 st out
 ·rfl
theorem nw (t : TokZ) : -5 <= bi t := by
 unfold bi
 repeat' split
 all_goals decide
theorem oZ {st : List Int} {out : List TokZ} {t : TokZ} {h : Int} {r : List Int} {o : List TokZ} (hc : aT st out t = (h :: r, o)) (hN : bi t <= 0) (hh : h = bi t) : fP st out t = some (fr (bp t) r, o ++ [t], je t) := by
 unfold aT at hc
 unfold fP
 simp only
 rw [hc, if_pos hN]
 simp only
 rw [if_pos hh]
theorem pg {st : List Int} {out : List TokZ} {t : TokZ} {s : List Int} {o : List TokZ} (hc : aT st out t = (s, o)) (hN : bi t <= 0) (hh : ¬ s.head?.getD (-9) = bi t) : fP st out t = none := by
 unfold aT at hc
 unfold fP
 simp only
 rw [hc, if_pos hN]
 cases s with
 | nil => rfl
 | cons x r =>
  simp only
  rw [if_neg (show ¬ x = bi t from hh)]
theorem lR {st : List Int} {out : List TokZ} {t : TokZ} {s : List Int} {o : List TokZ} (hc : aT st out t = (s, o)) (hN : ¬ bi t <= 0) : fP st out t = some (fr (bp t) s, o ++ [t], je t) := by
 unfold aT at hc
 unfold fP
 simp only
 rw [hc, if_neg hN]
theorem np {st : List Int} {x : Int} (h : st.head?.getD (-9) = x) (hx : x ≠ -9) : ∃ r, st = x :: r := by
 cases st with
 | nil => exact absurd h.symm hx
 | cons y r => exact ⟨r, by rw [show y = x from h]⟩
theorem pS (l st : List Int) (i : Nat) (n : Int) (h : l[i]? = some n) : n :: fr (l.take i) st = fr (l.take (i + 1)) st := by
 unfold fr
 rw [List.take_add_one, h]
 simp
theorem SpecAt.new {w w' : World} {K : Nat -> Prop} {g : Nat} {out : List TokZ} {st : List Int} {wait bad : Bool} (h : SpecAt w K g out st wait bad) (hb : Below w.heap.size w w') {b : Nat} (h1 : w.heap.size <= b) (h2 : b < w'.heap.size) : SpecAt w' (fun k => K k \/ k = b) g out st wait bad := by
 obtain ⟨vo, vs, hg, hm⟩ := h
 have jo := hm.later hb
 have oI := hm.gw
 refine ⟨vo, vs, (hb.block g hm.gw).trans hg, jo.more (fun k hk => ?_) (fun hk => ?_) (fun k hk hK => ?_) (fun k hk hK => ?_)⟩
 ·rcases hk with hk | rfl
  ·exact jo.kw k hk
  ·exact h2
 ·rcases hk with hk | e
  ·exact hm.kg hk
  ·omega
 ·rcases hK with hK | e
  ·exact hm.ko k hk hK
  ·have := (cK hm.out k hk).1
   omega
 ·rcases hK with hK | e
  ·exact hm.ks k hk hK
  ·have := (cK hm.st k hk).1
   omega
theorem ov {w : World} {K : Nat -> Prop} {g : Nat} {vo vs : Value} {out : List TokZ} {st : List Int} (h : LayMem w K g vo vs out st) (t : TokZ) (hn : out.length <= 10000000) :
 ∃ o' n' cap' w', (Builtin.append_ #[60, 60] 60 #[vo, .slice (some ⟨w.heap.size, 0, none⟩) 1 1]).run Tryz.prog (w.alloc (aN t)).drew = .ok (.slice o' n' cap') w' /\ LayMem w' K g (.slice o' n' cap') vs (out ++ [t]) st /\ Keeps K w w' /\ w'.heap[g]? = w.heap[g]? := by
 obtain ⟨i0, hi, ll, iN, iM⟩ := info_parts lc
 have h1 := h.alloc (aN t)
 have h2 : LayMem (w.alloc (aN t)).drew K g vo vs out st := h1.same U0 fun _ _ _ => rfl
 obtain ⟨v', w', hr, hown, lI, -, hb⟩ := run_append_own_at (P := Tryz.prog) (w.alloc (aN t)).drew 0 60 60 122 i0 _ 4 40 Tryz.underlying60 hi ll iN iM rfl (by decide) vo out.length (iH out) h2.out ⟨w.heap.size, 0, none⟩ 1 1 (iK t) rfl
  (kM w _ _ _ _ _) (jG _ _ _ _) (by unfold maxLen; omega) (by omega) (Nat.zero_le _)
 obtain ⟨o', cap', rfl⟩ := dU hown
 obtain ⟨jo, aL, dj⟩ := h2.put hown lI hb
 refine ⟨o', _, cap', w', hr, jo, ?_, ?_⟩
 ·have h3 : Keeps K w (w.alloc (aN t)).drew := (bH w (aN t) h.kw).trans ⟨rfl, rfl, rfl, Nat.le_refl _, fun _ _ => rfl⟩
  exact h3.trans aL
 ·rw [dj]
  exact Below.heap_alloc w (aN t) g h.gw
theorem SpecAt.wait2 {w : World} {K : Nat -> Prop} {g : Nat} {out : List TokZ} {st : List Int} {wait bad : Bool} (h : SpecAt w K g out st wait bad) : w.cell? ⟨g, 2, none⟩ = some (.bool wait) /\ w.frozen? ⟨g, 2, none⟩ = false := by
 obtain ⟨vo, vs, hg, hm⟩ := h
 exact ⟨cell_of hg 2, aj hg 2⟩
theorem SpecAt.setWait {w : World} {K : Nat -> Prop} {g : Nat} {out : List TokZ} {st : List Int} {wait bad : Bool} (h : SpecAt w K g out st wait bad) (x : Bool) : SpecAt (w.setCell ⟨g, 2, none⟩ (.bool x)) K g out st x bad /\ Keeps K w (w.setCell ⟨g, 2, none⟩ (.bool x)) := by
 obtain ⟨vo, vs, hg, hm⟩ := h
 exact ⟨⟨vo, vs, ae _ hg, hm.set _ _⟩, ak _ _ _ _ hm.kg⟩
theorem kY {w : World} {K : Nat -> Prop} {g : Nat} {out : List TokZ} {st : List Int} {wait : Bool} (t : TokZ) (h : SpecAt w K g out st wait false) (hn : out.length + st.length <= 8000000) :
 Calls Tryz.prog 179 #[.pointer (some ⟨g, 0, none⟩), fS t] w fun e w' => e = .returned (.tuple #[]) /\ SpecRes w' K g (fP st out t) /\ Keeps K w w' := by
 have qM := aa (bH w (aN t) h.kw)
 have kH := aa (h.box (aN t))
 have aF := aa (heap_alloc_new w (aN t))
 clear h
 unfold fS
 go_enter Tryz.func179, Tryz.ntmps179
 go_wp2_with fail
 rw [aU]
 refine (uQ t _).mono ?_
 rintro e w1 ⟨rfl, bS⟩
 have eI := aa (kH.out.later bS)
 have ez := aa (cJ (K := fun k => K k \/ k = w.heap.size) bS kH.out.kw)
 clear bS
 generalize hN : bi t = N
 have HN := aa hN
 clear hN
 go_upto_block 0 with fail
 go_cut [] (fun wc => SpecAt wc (fun k => K k \/ k = w.heap.size) g (aT st out t).2 (aT st out t).1 wait false /\ Keeps (fun k => K k \/ k = w.heap.size) (w.alloc (aN t)) wc)
 case first =>
  go_wp2
  go_loopw [] (fun wr => ∃ (st' : List Int) (out' : List TokZ), aT st out t = aT st' out' t /\ out'.length + st'.length <= 8000000 /\ SpecAt wr (fun k => K k \/ k = w.heap.size) g out' st' wait false /\ Keeps (fun k => K k \/ k = w.heap.size) (w.alloc (aN t)) wr) (fun wr => mA wr g)
  case atStart => exact ⟨st, out, rfl, hn, eI.out, ez.out⟩
  case round =>
   obtain ⟨st', out', sZ, Hv, hS, hK⟩ := hrel
   have zb := aa sZ
   have HS := aa hS
   have HK := aa hK
   obtain ⟨x0, x1, x2, x3⟩ := aA ((hK.block w.heap.size (Or.inr rfl)).trans aF.out)
   have Cy := aa hS.len
   clear sZ hS hK
   by_cases hA : N < 0 \/ (¬ N < 0 /\ t.k = 6)
   ·have zk : Hid (bT t = true) := by
     show bT t = true
     unfold bT
     rw [HN.out]
     rcases hA with hA | ⟨_, hB⟩
     ·simp [hA]
     ·simp [hB]
    by_cases hx : 0 < st'.head?.getD (-9)
    ·obtain ⟨r, hr⟩ := np rfl (show st'.head?.getD (-9) ≠ -9 by omega)
     generalize st'.head?.getD (-9) = x at hr hx
     subst hr
     have eH : Hid (aT st out t = aT r (out' ++ [bX fG]) t) := by
      show aT st out t = aT r (out' ++ [bX fG]) t
      rw [zb.out]
      unfold aT
      rw [zk.out, if_pos rfl, if_pos rfl, ul 0 x r out' hx]
     rw [List.length_cons] at Hv
     rcases hA with hA | ⟨hA, hB⟩
     all_goals
      first | (have NZ : (t.k == 6) = true := by simp [hB]) | skip
      try clear hB
      go_wp2_with fail
      refine (kZ HS.out (by rw [List.length_cons]; omega)).mono ?_
      rintro e w2 ⟨rfl, m2, rfl⟩
      simp only [List.head?_cons, Option.getD_some]
      go_wp2_with fail
      refine (nA (HS.out.drewN _) (by rw [List.length_cons]; omega)).mono ?_
      rintro e w3 ⟨rfl, eP, d9⟩
      have lr := aa eP
      have fA := aa ((HK.out.drewN _).trans d9)
      clear eP d9
      go_wp2_with fail
      refine (gR ⟨#[125]⟩ lr.out (by omega)).mono ?_
      rintro e w4 ⟨rfl, ip, dI⟩
      have mX := aa ip
      have jO := aa (fA.out.trans dI)
      clear ip dI
      go_wp2
      refine ⟨⟨r, out' ++ [bX fG], eH.out, by rw [List.length_append]; simp only [List.length_cons, List.length_nil]; omega, mX.out, jO.out⟩, ?_⟩
      rw [mX.out.len, Cy.out]
      exact Nat.lt_succ_self _
    ·have eH : Hid (aT st out t = (st', out')) := by
      show aT st out t = (st', out')
      rw [zb.out]
      unfold aT
      rw [zk.out, if_pos rfl, tV 0 st' out' hx]
     generalize hxx : st'.head?.getD (-9) = x at hx
     have HJ := aa hxx
     clear hxx
     rcases hA with hA | ⟨hA, hB⟩
     all_goals
      first | (have NZ : (t.k == 6) = true := by simp [hB]) | skip
      try clear hB
      go_wp2_with fail
      refine (kZ HS.out (by omega)).mono ?_
      rintro e w2 ⟨rfl, m2, rfl⟩
      rw [HJ.out]
      go_wp2
      go_meet
      case rel =>
       rw [eH.out]
       exact ⟨HS.out.drewN _, HK.out.drewN _⟩
   ·have Jn : ¬ N < 0 := fun h => hA (Or.inl h)
    have NZ : (t.k == 6) = false := by
     cases hb : (t.k == 6)
     ·rfl
     ·exact absurd (Or.inr ⟨Jn, by simpa using hb⟩) hA
    have eH : Hid (aT st out t = (st', out')) := by
     show aT st out t = (st', out')
     rw [zb.out]
     unfold aT bT
     rw [HN.out, NZ]
     simp [Jn]
    clear hA
    go_wp2
    go_meet
    case rel =>
     rw [eH.out]
     exact ⟨HS.out, HK.out⟩
 case rest =>
  obtain ⟨hSc, hKc⟩ := hcut
  have ou := kt st out t
  obtain ⟨st1, out1, hP⟩ : ∃ s o, aT st out t = (s, o) := ⟨_, _, rfl⟩
  rw [hP] at hSc ou
  simp only at hSc ou
  have HP := aa hP
  have R9 := aa hKc
  have UC := aa hSc
  obtain ⟨x0, x1, x2, x3⟩ := aA ((hKc.block w.heap.size (Or.inr rfl)).trans aF.out)
  obtain ⟨vo, vs, hg, hm⟩ := hSc
  obtain ⟨o', n', cap', w2, hr, jo, aL, dj⟩ := ov hm t (by omega)
  rw [hg] at dj
  have c0 := cell_of hg 0
  have d0 := cell_of dj 0
  simp only [List.getElem?_toArray, List.getElem?_cons_zero] at c0 d0
  have f0 := aj dj 0
  have oI : g < wc.heap.size := hm.gw
  have cA : w.heap.size < wc.heap.size := hm.kw _ (Or.inr rfl)
  have HR := aa hr
  have uW := aa jo
  have fh := aa (hKc.trans aL)
  have xK := aa dj
  clear hP hKc hg hm hr jo aL dj
  go_upto_region 5 with fail
  go_cut [] (fun wd => SpecAt wd (fun k => K k \/ k = w.heap.size) g (out1 ++ [t]) st1 wait false /\ Keeps (fun k => K k \/ k = w.heap.size) (w.alloc (aN t)) wd)
  case first =>
   go_region_law (refine dL rfl (.tmp 29) (.tmp 31) 60 rfl vo (.slice (some ⟨wc.heap.size, 0, none⟩) 1 1) (.slice o' n' cap') w2 (by simp [Act.eval]) (by simp [Act.eval]) HR.out ?_)
   all_goals
    go_wp2_with fail
    go_meet
    case rel => exact ⟨⟨_, vs, ae _ xK.out, uW.out.set _ _⟩, fh.out.trans (ak _ _ _ _ uW.out.kg)⟩
  case rest =>
   obtain ⟨hSd, hKd⟩ := hcut
   have vt := aa hSd
   have IL := aa hKd
   have Ow := nw t
   rw [HN.out] at Ow
   clear x0 x1 x2 x3 c0 d0 f0 uW xK HR fh hSd hKd oI cA R9
   go_upto_if 36 with fail
   go_cut [] (fun we => ∃ st2 : List Int, fP st out t = some (fr (bp t) st2, out1 ++ [t], je t) /\ st2.length <= st1.length /\ SpecAt we (fun k => K k \/ k = w.heap.size) g (out1 ++ [t]) st2 wait false /\ Keeps (fun k => K k \/ k = w.heap.size) (w.alloc (aN t)) we)
   case first =>
    by_cases hN0 : N <= 0
    ·go_wp2_with fail
     refine (kZ vt.out (by rw [List.length_append]; simp only [List.length_cons, List.length_nil]; omega)).mono ?_
     rintro e w3 ⟨rfl, m3, rfl⟩
     generalize hxx : st1.head?.getD (-9) = x
     by_cases hx : x = N
     ·obtain ⟨r, hr⟩ := np hxx (by omega)
      subst hr
      have HO := aa (oZ HP.out (by rw [HN.out]; exact hN0) (by rw [HN.out]; exact hx))
      have OE : (x == N) = true := by simp [hx]
      clear hxx hx
      rw [List.length_cons] at ou
      go_wp2_with fail
      refine (nA (vt.out.drewN _) (by rw [List.length_append]; simp only [List.length_cons, List.length_nil]; omega)).mono ?_
      rintro e w4 ⟨rfl, ip, dI⟩
      have mX := aa ip
      have jO := aa ((IL.out.drewN _).trans dI)
      clear ip dI
      go_wp2
      go_meet
      case rel => exact ⟨r, HO.out, by rw [List.length_cons]; omega, mX.out, jO.out⟩
     ·have HO := aa (pg HP.out (by rw [HN.out]; exact hN0) (by rw [HN.out, hxx]; exact hx))
      have OE : (x == N) = false := by simp [hx]
      obtain ⟨vo, vs, hg, hm⟩ := vt.out.drewN m3
      have c3 := cell_of hg 3
      simp only [U7, U8, U9] at c3
      have f3 := aj hg 3
      have HG := aa hg
      have HM := aa hm
      have KW := aa (IL.out.drewN m3)
      generalize wc.drewN m3 = we at c3 f3 HG HM KW ⊢
      clear hxx hx hg hm
      go_wp2
      try simp only [Exit.inBlock, Exit.then]
      refine bodyPost_ret (results_none rfl _ _ _) rfl ⟨rfl, ?_, ?_⟩
      ·rw [HO.out]
       have hs : SpecAt (we.setCell ⟨g, 3, none⟩ (.bool true)) (fun k => K k \/ k = w.heap.size) g (out1 ++ [t]) st1 wait true := ⟨vo, vs, ae _ HG.out, HM.out.set _ _⟩
       exact ⟨st1, out1 ++ [t], wait, hs.less fun k hk => Or.inl hk⟩
      ·exact qM.out.trans ((KW.out.trans (ak _ _ _ _ HM.out.kg)).mono fun k hk => Or.inl hk)
    ·have HO := aa (lR HP.out (by rw [HN.out]; exact hN0))
     go_wp2
     go_meet
     case rel => exact ⟨st1, HO.out, Nat.le_refl _, vt.out, IL.out⟩
   case rest =>
    obtain ⟨st2, hO, bK, hS, hK⟩ := hcut
    have HO := aa hO
    have Hw := aa hS
    have EM := aa hK
    obtain ⟨x0, x1, x2, x3⟩ := aA ((hK.block w.heap.size (Or.inr rfl)).trans aF.out)
    have Lq := rD t
    clear hO hS hK
    go_wp2_with fail
    rw [aU]
    refine (uB t _).mono ?_
    rintro e w5 ⟨v, rfl, ⟨b, rfl, lJ, hbh⟩, uZ⟩
    have oj := aa (Hw.out.new uZ lJ (ad hbh))
    have ze := aa (cJ uZ Hw.out.kw)
    have PH := aa hbh
    have zc := aa ((uZ.block w.heap.size (Hw.out.kw _ (Or.inr rfl))).trans ((EM.out.block w.heap.size (Or.inr rfl)).trans aF.out))
    clear uZ hbh x0 x1 x2 x3
    generalize hops : bp t = ops at HO PH Lq
    go_wp2
    go_loopw [6] (fun t6 wr => ∃ i : Nat, i <= ops.length /\ t6 = .int .i64 i /\ SpecAt wr (fun k => (K k \/ k = w.heap.size) \/ k = b) g (out1 ++ [t]) (fr (ops.take i) st2) wait false /\ Keeps (fun k => (K k \/ k = w.heap.size) \/ k = b) w5 wr) (fun t6 _ => ops.length - (intOf t6).toNat)
    case atStart => exact ⟨0, Nat.zero_le _, rfl, oj.out, Keeps.refl _ _⟩
    case round =>
     obtain ⟨i, hi, rfl, hS, hK⟩ := hrel
     have qL := aa hS
     have FF := aa hK
     have Te := aa ((hK.block b (Or.inr rfl)).trans PH.out)
     have NS := aa ((hK.block w.heap.size (Or.inl (Or.inr rfl))).trans zc.out)
     clear hS hK
     by_cases au : i < ops.length
     ·obtain ⟨n, mQ⟩ : ∃ n, ops[i]? = some n := ⟨ops[i], List.getElem?_eq_getElem au⟩
      have ci := cell_of Te.out i
      rw [List.getElem?_toArray, List.getElem?_map, mQ] at ci
      simp only [Option.map_some] at ci
      have wM := aa mQ
      have fX : (i : Int) < ops.length := by omega
      clear mQ
      go_wp2_with fail
      refine (lL n qL.out ?_).mono ?_
      ·rw [fr, List.length_append, List.length_append, List.length_reverse, List.length_take]
       simp only [List.length_cons, List.length_nil]
       omega
      rintro e w6 ⟨rfl, Dp, fg⟩
      rw [pS _ _ _ _ wM.out] at Dp
      have TW := aa Dp
      have nX := aa (FF.out.trans fg)
      clear Dp fg
      go_wp2
      refine ⟨⟨i + 1, by omega, by go_num, TW.out, nX.out⟩, by simp [intOf]; omega⟩
     ·have jQ : i = ops.length := by omega
      subst jQ
      have Ts : Hid (SpecAt wr (fun k => (K k \/ k = w.heap.size) \/ k = b) g (out1 ++ [t]) (fr ops st2) wait false) := by
       have h := qL.out
       rw [List.take_length] at h
       exact h
      have Rh := Ts
      have CG := FF
      have Ds := zc
      obtain ⟨x0, x1, x2, x3⟩ := aA NS.out
      have HW : Hid (je t = (dq t 4 ⟨#[108, 101, 116]⟩ || dq t 4 ⟨#[119, 104, 101, 114, 101]⟩ || dq t 4 ⟨#[111, 102]⟩)) := rfl
      go_wp2_with fail
      rw [aU]
      refine (ev t 4 ⟨#[108, 101, 116]⟩ _).mono ?_
      rintro e w8 ⟨rfl, hb⟩
      have L2 := aa (Rh.out.later hb)
      have K3 := aa (CG.out.trans (cJ hb Rh.out.kw))
      clear hb
      obtain ⟨x0, x1, x2, x3⟩ := aA ((K3.out.block w.heap.size (Or.inl (Or.inr rfl))).trans Ds.out)
      obtain ⟨c2, f2⟩ := L2.out.wait2
      cases hI1 : dq t 4 ⟨#[108, 101, 116]⟩
      rotate_left
      ·rw [hI1] at HW
       clear hI1
       go_wp2
       go_end0
       obtain ⟨hs, hk⟩ := L2.out.setWait (true)
       refine ⟨rfl, ?_, ?_⟩
       ·rw [HO.out, HW.out]
        exact hs.less fun k hk => Or.inl (Or.inl hk)
       ·exact qM.out.trans ((EM.out.trans (ze.out.trans ((K3.out.trans hk).mono fun k hk => Or.inl hk))).mono fun k hk => Or.inl hk)
      ·rw [hI1] at HW
       clear hI1
       go_wp2_with fail
       rw [aU]
       refine (ev t 4 ⟨#[119, 104, 101, 114, 101]⟩ _).mono ?_
       rintro e w9 ⟨rfl, hb⟩
       have MB := aa (L2.out.later hb)
       have rT := aa (K3.out.trans (cJ hb L2.out.kw))
       clear hb
       obtain ⟨x0, x1, x2, x3⟩ := aA ((rT.out.block w.heap.size (Or.inl (Or.inr rfl))).trans Ds.out)
       obtain ⟨c2, f2⟩ := MB.out.wait2
       cases hI2 : dq t 4 ⟨#[119, 104, 101, 114, 101]⟩
       rotate_left
       ·rw [hI2] at HW
        clear hI2
        go_wp2
        go_end0
        obtain ⟨hs, hk⟩ := MB.out.setWait (true)
        refine ⟨rfl, ?_, ?_⟩
        ·rw [HO.out, HW.out]
         exact hs.less fun k hk => Or.inl (Or.inl hk)
        ·exact qM.out.trans ((EM.out.trans (ze.out.trans ((rT.out.trans hk).mono fun k hk => Or.inl hk))).mono fun k hk => Or.inl hk)
       ·rw [hI2] at HW
        clear hI2
        go_wp2_with fail
        rw [aU]
        refine (ev t 4 ⟨#[111, 102]⟩ _).mono ?_
        rintro e w10 ⟨rfl, hb⟩
        have J7 := aa (MB.out.later hb)
        have Lm := aa (rT.out.trans (cJ hb MB.out.kw))
        clear hb
        obtain ⟨x0, x1, x2, x3⟩ := aA ((Lm.out.block w.heap.size (Or.inl (Or.inr rfl))).trans Ds.out)
        obtain ⟨c2, f2⟩ := J7.out.wait2
        generalize dq t 4 ⟨#[111, 102]⟩ = b3 at HW ⊢
        go_wp2
        go_end0
        obtain ⟨hs, hk⟩ := J7.out.setWait (b3)
        refine ⟨rfl, ?_, ?_⟩
        ·rw [HO.out, HW.out]
         exact hs.less fun k hk => Or.inl (Or.inl hk)
        ·exact qM.out.trans ((EM.out.trans (ze.out.trans ((Lm.out.trans hk).mono fun k hk => Or.inl hk))).mono fun k hk => Or.inl hk)
theorem SpecRes.less {w : World} {K K' : Nat -> Prop} {g : Nat} {r : Option (List Int × List TokZ × Bool)} (h : SpecRes w K' g r) (hk : ∀ k, K k -> K' k) : SpecRes w K g r := by
 match r, h with
 | none, ⟨st, out, wait, h⟩ => exact ⟨st, out, wait, h.less hk⟩
 | some (a, b, c), h => exact SpecAt.less h hk
theorem vK {w : World} {K : Nat -> Prop} {g : Nat} {out : List TokZ} {st : List Int} {wait : Bool} (t : TokZ) (line : Int) (h : SpecAt w K g out st wait false) (hn : out.length + st.length <= 7500000) :
 Calls Tryz.prog 124 #[.pointer (some ⟨g, 0, none⟩), fS t, .int .i64 line] w fun e w' => e = .returned (.tuple #[]) /\ SpecRes w' K g (fd st out wait t line) /\ Keeps K w w' := by
 obtain ⟨c2, f2⟩ := h.wait2
 have oI : g < w.heap.size := by obtain ⟨vo, vs, hg, hm⟩ := h; exact hm.gw
 have qM := aa (bH w (aN t) h.kw)
 have kH := aa (h.box (aN t))
 have aF := aa (heap_alloc_new w (aN t))
 have gC := (h.setWait false).1.box (aN t)
 have dV := (h.setWait false).2.trans (bH _ (aN t) (h.setWait false).1.kw)
 have nZ := heap_alloc_new (w.setCell ⟨g, 2, none⟩ (.bool false)) (aN t)
 rw [show (w.setCell ⟨g, 2, none⟩ (.bool false)).heap.size = w.heap.size by simp] at gC nZ
 have eI := aa gC
 have ez := aa dV
 have aK := aa nZ
 clear h gC dV nZ
 unfold fS
 go_enter Tryz.func124, Tryz.ntmps124
 go_upto_if 9 with fail
 go_cut [] (fun wc => ∃ (st1 : List Int) (out1 : List TokZ) (wt : Bool), fd st out wait t line = gH st1 out1 t line /\ out1.length + st1.length <= 7600000 /\ SpecAt wc (fun k => K k \/ k = w.heap.size) g out1 st1 wt false /\ Keeps K w wc /\ wc.heap[w.heap.size]? = some (aN t))
 case first =>
  cases wait
  ·go_wp2
   go_meet
   case rel => exact ⟨st, out, false, rfl, by omega, kH.out, qM.out, aF.out⟩
  ·go_wp2_with fail
   rw [aU]
   refine (ev t 5 ⟨#[123]⟩ _).mono ?_
   rintro e w2 ⟨rfl, hb⟩
   have lm := aa (eI.out.later hb)
   have fh := aa (ez.out.trans (cJ (K := K) hb fun k hk => eI.out.kw k (Or.inl hk)))
   have gx := aa ((hb.block w.heap.size (ad aK.out)).trans aK.out)
   clear hb c2 f2
   have ed : Hid (fd st out true t line = if dq t 5 ⟨#[123]⟩ = true then some (0 :: st, out ++ [t], false) else if (!(t.k == 6) && decide (gD st < t.c)) = true then fP (t.c :: st) (out ++ [bX jf]) t else gH st (out ++ [bX jf] ++ [bX fG]) t line) := rfl
   cases hI : dq t 5 ⟨#[123]⟩
   rotate_left
   ·rw [hI, if_pos rfl] at ed
    clear hI
    go_wp2_with fail
    refine (lL 0 lm.out (by omega)).mono ?_
    rintro e w3 ⟨rfl, eP, d9⟩
    have fA := aa (fh.out.trans (d9.mono fun k hk => Or.inl hk))
    obtain ⟨x0, x1, x2, x3⟩ := aA ((d9.block w.heap.size (Or.inr rfl)).trans gx.out)
    obtain ⟨vo, vs, hg, hm⟩ := eP
    obtain ⟨o', n', cap', w4, hr, EJ, dI, hg4⟩ := ov hm t (by omega)
    rw [hg] at hg4
    have c0 := cell_of hg 0
    have d0 := cell_of hg4 0
    simp only [List.getElem?_toArray, List.getElem?_cons_zero] at c0 d0
    have f0 := aj hg4 0
    have OR : g < w3.heap.size := hm.gw
    have vj : w.heap.size < w3.heap.size := hm.kw _ (Or.inr rfl)
    have HR := aa hr
    have KD := aa EJ
    have jO := aa (fA.out.trans (dI.mono fun k hk => Or.inl hk))
    have Oq := aa hg4
    clear hg hm hr EJ dI hg4 d9
    go_wp2
    go_region_law (refine dL rfl (.tmp 21) (.tmp 23) 60 rfl vo (.slice (some ⟨w3.heap.size, 0, none⟩) 1 1) (.slice o' n' cap') w4 (by simp [Act.eval]) (by simp [Act.eval]) HR.out ?_)
    all_goals
     go_wp2
     try simp only [Exit.inBlock, Exit.then]
     refine bodyPost_ret (results_none rfl _ _ _) rfl ⟨rfl, ?_, ?_⟩
     ·rw [ed.out]
      have hs : SpecAt (w4.setCell ⟨g, 0, none⟩ (.slice o' n' cap')) (fun k => K k \/ k = w.heap.size) g (out ++ [t]) (0 :: st) false false := ⟨_, vs, ae _ Oq.out, KD.out.set _ _⟩
      exact hs.less fun k hk => Or.inl hk
     ·exact jO.out.trans (ak _ _ _ _ fun h => KD.out.kg (Or.inl h))
   ·rw [hI, if_neg (by decide)] at ed
    clear hI
    go_wp2_with fail
    refine (gR ⟨#[123]⟩ lm.out (by omega)).mono ?_
    rintro e w3 ⟨rfl, eP, d9⟩
    have lr := aa eP
    have fA := aa (fh.out.trans (d9.mono fun k hk => Or.inl hk))
    have jP := aa ((d9.block w.heap.size (Or.inr rfl)).trans gx.out)
    clear eP d9
    obtain ⟨x0, x1, x2, x3⟩ := aA jP.out
    generalize hG : gD st = G at ed
    have HG := aa hG
    clear hG
    have fB : (out ++ [bX ⟨#[123]⟩]).length = out.length + 1 := by rw [List.length_append]; rfl
    have wO := aa fB
    clear fB
    cases h6 : (t.k == 6)
    ·have Fu : (t.k != 6) = true := by rw [bne, h6]; rfl
     rw [h6] at ed
     by_cases hG : G < t.c
     ·have NH : decide (G < t.c) = true := by simp [hG]
      rw [NH] at ed
      clear h6
      go_wp2
      go_quiet ((go_at_call 178; refine kb lr.out (by have := wO.out; omega) _ G HG.out))
      go_wp2_with fail
      refine (lL t.c (lr.out.drewN _) (by have := wO.out; omega)).mono ?_
      rintro e w4 ⟨rfl, ip, dI⟩
      have mX := aa ip
      have jO := aa ((fA.out.drewN _).trans (dI.mono fun k hk => Or.inl hk))
      obtain ⟨y0, y1, y2, y3⟩ := aA ((dI.block w.heap.size (Or.inr rfl)).trans jP.out)
      clear ip dI
      go_wp2_with fail
      rw [aU]
      refine (kY t mX.out (by have := wO.out; rw [List.length_cons]; omega)).mono ?_
      rintro e w5 ⟨rfl, jm, tn⟩
      have oj := aa jm
      have ze := aa (jO.out.trans (tn.mono fun k hk => Or.inl hk))
      clear jm tn
      go_wp2
      try simp only [Exit.inBlock, Exit.then]
      refine bodyPost_ret (results_none rfl _ _ _) rfl ⟨rfl, ?_, ze.out⟩
      rw [ed.out]
      exact oj.out.less fun k hk => Or.inl hk
     ·have NH : decide (G < t.c) = false := by simp [hG]
      rw [NH] at ed
      clear h6
      go_wp2
      go_quiet ((go_at_call 178; refine kb lr.out (by have := wO.out; omega) _ G HG.out))
      go_wp2_with fail
      refine (gR ⟨#[125]⟩ (lr.out.drewN _) (by have := wO.out; omega)).mono ?_
      rintro e w4 ⟨rfl, ip, dI⟩
      have mX := aa ip
      have jO := aa ((fA.out.drewN _).trans (dI.mono fun k hk => Or.inl hk))
      have mh := aa ((dI.block w.heap.size (Or.inr rfl)).trans jP.out)
      clear ip dI
      go_wp2
      go_meet
      case rel => exact ⟨st, _, false, ed.out, by have := wO.out; simp only [List.length_append, List.length_cons, List.length_nil]; omega, mX.out, jO.out, mh.out⟩
    ·rw [h6] at ed
     have Fu : (t.k != 6) = false := by rw [bne, h6]; rfl
     clear h6
     go_wp2
     go_quiet (fail)
     go_wp2_with fail
     refine (gR ⟨#[125]⟩ (lr.out.drewN _) (by have := wO.out; omega)).mono ?_
     rintro e w4 ⟨rfl, ip, dI⟩
     have mX := aa ip
     have jO := aa ((fA.out.drewN _).trans (dI.mono fun k hk => Or.inl hk))
     have mh := aa ((dI.block w.heap.size (Or.inr rfl)).trans jP.out)
     clear ip dI
     go_wp2
     go_meet
     case rel => exact ⟨st, _, false, ed.out, by have := wO.out; simp only [List.length_append, List.length_cons, List.length_nil]; omega, mX.out, jO.out, mh.out⟩
 case rest =>
  obtain ⟨st1, out1, wt, fE, jn, hS, hK, hX⟩ := hcut
  have ed := aa fE
  have HS := aa hS
  have HK := aa hK
  have HX := aa hX
  obtain ⟨x0, x1, x2, x3⟩ := aA hX
  clear fE hS hK hX c2 f2 eI ez aK kH qM aF
  by_cases hA : line < t.l /\ t.k ≠ 6
  ·obtain ⟨hl, h6⟩ := hA
   have Ra : (t.k == 6) = false := by simp [h6]
   have Mj : Hid (gH st1 out1 t line = fP (cB st1 out1 t).1 (cB st1 out1 t).2 t) := by
    show gH st1 out1 t line = _
    unfold gH
    rw [Ra]
    simp [hl]
   have zh := aa (nB st1 out1 t)
   clear h6
   go_wp2_with fail
   rw [aU]
   refine (vz t HS.out (by omega)).mono ?_
   rintro e w2 ⟨rfl, jr, aL⟩
   have lm := aa jr
   have fh := aa (HK.out.trans (aL.mono fun k hk => Or.inl hk))
   obtain ⟨y0, y1, y2, y3⟩ := aA ((aL.block w.heap.size (Or.inr rfl)).trans HX.out)
   clear jr aL
   go_wp2_with fail
   rw [aU]
   refine (kY t lm.out (by have := zh.out; omega)).mono ?_
   rintro e w3 ⟨rfl, eP, d9⟩
   have lr := aa eP
   have fA := aa (fh.out.trans (d9.mono fun k hk => Or.inl hk))
   clear eP d9
   go_wp2
   go_end0
   refine ⟨rfl, ?_, fA.out⟩
   rw [ed.out, Mj.out]
   exact lr.out.less fun k hk => Or.inl hk
  ·have Mj : Hid (gH st1 out1 t line = fP st1 out1 t) := by
    show gH st1 out1 t line = _
    unfold gH
    have : (decide (line < t.l) && !(t.k == 6)) = false := by
     by_cases h1 : line < t.l
     ·have h2 : t.k = 6 := Classical.not_not.1 fun h => hA ⟨h1, h⟩
      simp [h2]
     ·simp [h1]
    rw [this]
    simp
   by_cases hl : line < t.l
   ·have h6 : t.k = 6 := Classical.not_not.1 fun h => hA ⟨hl, h⟩
    have Ra : (t.k == 6) = true := by simp [h6]
    clear h6 hA
    go_wp2_with fail
    rw [aU]
    refine (kY t HS.out (by omega)).mono ?_
    rintro e w3 ⟨rfl, eP, d9⟩
    have lr := aa eP
    have fA := aa (HK.out.trans (d9.mono fun k hk => Or.inl hk))
    clear eP d9
    go_wp2
    go_end0
    refine ⟨rfl, ?_, fA.out⟩
    rw [ed.out, Mj.out]
    exact lr.out.less fun k hk => Or.inl hk
   ·clear hA
    go_wp2_with fail
    rw [aU]
    refine (kY t HS.out (by omega)).mono ?_
    rintro e w3 ⟨rfl, eP, d9⟩
    have lr := aa eP
    have fA := aa (HK.out.trans (d9.mono fun k hk => Or.inl hk))
    clear eP d9
    go_wp2
    go_end0
    refine ⟨rfl, ?_, fA.out⟩
    rw [ed.out, Mj.out]
    exact lr.out.less fun k hk => Or.inl hk
end Go.Proofs.YtfomndilhlgikajGreatDoor
