import Derived.Defers
import Derived.Recover
import Derived.Laws.Pointers
import Derived.Test.YtfomndilhlgikajGreatDoorP24
set_option maxHeartbeats 8000000
set_option maxRecDepth 100000
namespace Go.Proofs.YtfomndilhlgikajGreatDoor.Rd
open Go.ChangeShapes Go.WideShapes Go.ChangeAt Go.RowKit
section
variable {b g d : Nat} {w : World} {ts : List TokZ}
def oF (d : Nat) (wh : bF) : bF := fun ts => if d < 60 then wh ts else none
def Rj (b g d n : Nat) (wh : bF) : Prop := ∀ (w : World) (ts : List TokZ), Ir b g w d ts -> ts.length <= n -> Calls Tryz.prog 152 #[.pointer (some ⟨b, 0, none⟩)] w (ResI b g d w ts wh)
theorem Ir.around (h : Ir b g w d ts) (e : Nat) : Ir b g (w.setCell ⟨b, 1, none⟩ (.int .i64 e)) e ts := by
 obtain ⟨off, cap, h0, h1, uU, h3⟩ := h
 refine ⟨off, cap, ?_, cw h1 (by simp) fun _ => az _ uU, uU, h3⟩
 have h9 := ae (j := 1) (Value.int .i64 (e : Int)) h0
 simpa using h9
theorem Ir.cell1 (h : Ir b g w d ts) : w.cell? ⟨b, 1, none⟩ = some (.int .i64 d) /\ w.frozen? ⟨b, 1, none⟩ = false := by
 obtain ⟨off, cap, h0, -⟩ := h
 exact ⟨cell_of h0 1, aj h0 1⟩
theorem zX {wh : bF} {n : Nat} (h : Ir b g w d ts) (hn : ts.length <= n) (hH : Rj b g (d + 1) n wh) : Calls Tryz.prog 100 #[.pointer (some ⟨b, 0, none⟩)] w (ResI b g d w ts (oF d wh)) := by
 have au := h.lt
 have ec := h.glt
 have HH := aa hH
 have aq : Hid (Below w.heap.size w (w.alloc (.cells zE 34))) := (U4 w).alloc U0 _
 have H0 := aa (h.below aq.out)
 have X0 : Hid ((w.alloc (.cells zE 34)).heap[w.heap.size]? = some (.cells zE 34 (0, 0))) := heap_alloc_new w _
 have ll : w.heap.size < (w.alloc (.cells zE 34)).heap.size := by simp
 have Si : zE = #[.int .i64 0, .string ⟨#[]⟩, .int .i64 0, .slice none 0 0, .slice none 0 0, .slice none 0 0] := rfl
 clear h hH
 generalize hV0 : w.alloc (.cells zE 34) = V0 at aq H0 X0 ll
 rw [Si] at hV0
 obtain ⟨c1, f1⟩ := H0.out.cell1
 by_cases hd : d < 60
 ·have jq : decide ((d : Int) <= 59) = true := decide_eq_true (by omega)
  have JV : (d : Int) <= 59 := by omega
  have hw : IntKind.i64.wrap ((d : Int) + 1) = (d : Int) + 1 := by rw [IntKind.wrap_i64]; omega
  have H1 := aa (H0.out.around (d + 1))
  have M1 := aa ((Mv.of (b := b) aq.out).trans (Mv.set b 1 V0 (.int .i64 ((d + 1 : Nat) : Int))))
  have X1 := aa (af X0.out (Mv.set b 1 V0 (.int .i64 ((d + 1 : Nat) : Int))) (by omega))
  have hc : ((d + 1 : Nat) : Int) = (d : Int) + 1 := by omega
  rw [hc] at H1 M1 X1
  have wJ := aa hd
  clear hd
  have iN : (V0.setCell ⟨b, 1, none⟩ (.int .i64 ((d : Int) + 1))).heap.size = V0.heap.size := by simp
  go_enter Tryz.func100, Tryz.ntmps100
  go_wp2_with fail
  refine (dt b V0).mono ?_
  rintro e w1 ⟨rfl, e1⟩
  rw [e1]
  clear e1 w1
  generalize hV1 : V0.setCell ⟨b, 1, none⟩ (.int .i64 ((d : Int) + 1)) = V1 at H1 M1 X1 iN
  go_wp2_with fail
  refine (HH.out V1 ts H1.out hn).mono ?_
  clear c1 f1 hV0 hV1
  rintro e w2 ⟨m2, ⟨t2, q2, cs, hh, ho, rfl, hFx, h2, hh2, hT⟩ | ⟨ho, rfl⟩⟩
  ·have M2 := aa (M1.out.trans m2)
   have X2 := aa (af X1.out m2 (by omega))
   have gB := aa hFx
   have HO : Hid (oF d wh ts = some (t2, q2)) := by
    show (if d < 60 then wh ts else none) = _
    rw [if_pos wJ.out]
    exact ho
   have jo := m2.size
   have mY := ad X2.out
   have IX := h2.lt
   obtain ⟨i0, i1, i2, j1, k1, l1, j2, k2, l2, j3, k3, l3, rfl⟩ := hFx
   have B2 : Hid (Below w2.heap.size w2 (w2.alloc (.cells #[.int .i64 i0, .string i1, .int .i64 i2, .slice j1 k1 l1, .slice j2 k2 l2, .slice j3 k3 l3] 34))) := (U4 w2).alloc U0 _
   have Y2 : Hid ((w2.alloc (.cells #[.int .i64 i0, .string i1, .int .i64 i2, .slice j1 k1 l1, .slice j2 k2 l2, .slice j3 k3 l3] 34)).heap[w2.heap.size]? = some (.cells #[.int .i64 i0, .string i1, .int .i64 i2, .slice j1 k1 l1, .slice j2 k2 l2, .slice j3 k3 l3] 34 (0, 0))) := heap_alloc_new w2 _
   generalize OA : w2.alloc (.cells #[.int .i64 i0, .string i1, .int .i64 i2, .slice j1 k1 l1, .slice j2 k2 l2, .slice j3 k3 l3] 34) = V2 at B2 Y2
   have H3 := h2.below B2.out
   obtain ⟨c1, f1⟩ := H3.cell1
   rw [show ((d + 1 : Nat) : Int) = (d : Int) + 1 by omega] at c1
   have UW := aa H3
   have H4 := aa (H3.around d)
   have M4 := aa ((M2.out.trans (Mv.of (b := b) B2.out)).trans (Mv.set b 1 V2 (.int .i64 (d : Int))))
   have X4 := aa (af (af X2.out (Mv.of (b := b) B2.out) (by omega)) (Mv.set b 1 V2 (.int .i64 (d : Int))) (by omega))
   have Y4 := aa (af Y2.out (Mv.set b 1 V2 (.int .i64 (d : Int))) (by omega))
   have T4 := aa (((hT.keep (aw B2.out U0)).keep fun k a1 a2 => (Mv.set b 1 V2 (.int .i64 (d : Int))).block k ⟨by have := B2.out.size; omega, by omega⟩).up (s' := w.heap.size + 1) (by omega) U0 U0)
   have Uv : IntKind.i64.wrap ((d : Int) + 1 - 1) = (d : Int) := by rw [IntKind.wrap_i64]; omega
   have qc : (V2.setCell ⟨b, 1, none⟩ (.int .i64 (d : Int))).heap.size = V2.heap.size := by simp
   have UK := B2.out.size
   have Uo : b < V2.heap.size := by omega
   clear m2 ho h2 hT H3
   go_upto_region 5 with fail
   have Tl : V2.setCell ⟨b, 1, none⟩ (.int .i64 (d : Int)) = V2.setCell ⟨b, 1, none⟩ (.int .i64 (d : Int)) := rfl
   generalize V2.setCell ⟨b, 1, none⟩ (.int .i64 (d : Int)) = V4 at *
   clear Tl c1 f1
   have x4 := X4.out
   unfold zE at x4
   obtain ⟨⟨u0, u1, u2, u3, u4, u5⟩, f0, f1, f2, f3, f4, f5⟩ := aG x4
   have y4 := Y4.out
   obtain ⟨⟨r0, r1, r2, r3, r4, r5⟩, -⟩ := aG y4
   have ip : w.heap.size < V4.heap.size := ad x4
   clear x4 y4
   go_wp2
   exact bodyPost_ret (v := .agg #[.int .i64 i0, .string i1, .int .i64 i2, .slice j1 k1 l1, .slice j2 k2 l2, .slice j3 k3 l3]) (results_cell_row rfl _ _ w.heap.size 34 _ (0, 0) _ rfl (aZ X4.out _ _ _ _ _ _) Tryz.underlying34 rfl (by kernel_rfl)) rfl (gG au ec HO.out M4.out H4.out hh2 (T4.out.up U0 (by omega) U0) gB.out)
  ·have M2 := aa (M1.out.trans m2)
   have HO : Hid (oF d wh ts = none) := by
    show (if d < 60 then wh ts else none) = _
    rw [if_pos wJ.out]
    exact ho
   clear m2 ho
   unfold ey
   go_wp2
   exact ⟨rfl, M2.out, .inr ⟨HO.out, rfl⟩⟩
 ·have jq : decide ((d : Int) <= 59) = false := decide_eq_false (by omega)
  have JV : ¬ (d : Int) <= 59 := by omega
  have M0 := aa (Mv.of (b := b) aq.out)
  have HO : Hid (oF d wh ts = none) := by
   show (if d < 60 then wh ts else none) = _
   rw [if_neg hd]
  clear hd
  go_enter Tryz.func100, Tryz.ntmps100
  go_wp2_with fail
  refine (cX b V0).mono ?_
  rintro e w1 ⟨rfl, e1⟩
  rw [e1]
  clear e1 w1
  unfold ey
  go_wp2
  exact ⟨rfl, M0.out, .inr ⟨HO.out, rfl⟩⟩
end
theorem Ar {s : ByteArray} (h : dP s.data.toList = true) : ((cu s.data.toList).map rn).length <= 1000 /\ ∀ t ∈ (cu s.data.toList).map rn, t.s.size <= 1500 := by
 obtain ⟨l, e, he, hg, h6, hs, hl⟩ := pw _ h
 rw [he]
 refine ⟨by rw [List.length_append]; simp; omega, fun t ht => ?_⟩
 rcases List.mem_append.1 ht with ht | ht
 ·exact (hg t ht).2.size
 ·rw [List.mem_singleton.1 ht, hs]
  decide
theorem zL {w : World} {base : Nat} {e : TypeId} {size n cap : Nat} {o : Option Addr} {xs : List Value} (h : w.ownsRow base e size (.slice o n cap) n xs) : n <= cap := by
 rcases h.2 with ⟨h1, h2⟩ | ⟨g, cap', cur, hv, hb, hg, hc, -⟩
 ·omega
 ·simp only [Value.slice.injEq] at hv
  obtain ⟨-, -, rfl⟩ := hv
  exact hc
section
variable {w : World}
def MM (s : ByteArray) (w : World) (e : Ending) (w' : World) : Prop := Below w.heap.size w w' /\ ((eh s = true /\ ∃ b g, e = .returned (.pointer (some ⟨b, 0, none⟩)) /\ w.heap.size <= b /\ w.heap.size <= g /\ Ir b g w' 0 (signs s)) \/ (eh s = false /\ e = ey))
theorem sE (s : ByteArray) (hs : s.size <= maxLen) : Calls Tryz.prog 83 #[.string s] w (MM s w) := by
 have aq : Hid (Below w.heap.size w (w.alloc (.cells #[.slice none 0 0, .int .i64 0] 177))) := (U4 w).alloc U0 _
 have X0 : Hid ((w.alloc (.cells #[.slice none 0 0, .int .i64 0] 177)).heap[w.heap.size]? = some (.cells #[.slice none 0 0, .int .i64 0] 177 (0, 0))) := heap_alloc_new w _
 have HL := aa (uP s (w.alloc (.cells #[.slice none 0 0, .int .i64 0] 177)) hs)
 go_enter Tryz.func83, Tryz.ntmps83
 go_wp2_with fail
 refine HL.out.mono ?_
 rintro e w1 ⟨v, rfl, how, bS⟩
 have aR := aa (aq.out.trans (bS.mono aq.out.size))
 have X1 := aa ((bS.block w.heap.size (ad X0.out)).trans X0.out)
 have Jw := aa bS.size
 have Js := aa how
 have nZ := ad X1.out
 clear bS how HL
 cases hlx : dP s.data.toList with
 | false =>
  have HS : Hid (eh s = false) := by unfold eh; rw [hlx]; rfl
  clear hlx
  go_wp2_with fail
  refine (cX w.heap.size w1).mono ?_
  rintro e w2 ⟨rfl, rfl⟩
  unfold ey
  go_wp2
  exact ⟨rfl, aR.out, .inr ⟨HS.out, rfl⟩⟩
 | true =>
  obtain ⟨bK, cI⟩ := Ar hlx
  have I9 := Js.out
  rw [xo, show (cu s.data.toList).length = ((cu s.data.toList).map rn).length by simp] at I9
  obtain ⟨o, g1, cap, rfl, hta, -⟩ := kQ I9
  have Jj := aa hta
  have Dw := aa cI
  have Je := aa hlx
  have vt : Hid (signs s = bB ((cu s.data.toList).map rn)) := rfl
  have dr := aa (jw (s := s) hlx)
  have qJ : Hid (eh s = cS ((cu s.data.toList).map rn)) := by unfold eh; rw [hlx]; rfl
  generalize (cu s.data.toList).map rn = ts at Jj Dw bK vt dr qJ
  have J4 := aa (I.implLay_any ts (by omega) (fun t ht => by have := Dw.out t ht; omega) o g1 cap w1 Jj.out)
  clear hlx cI hta I9 Js
  go_wp2_with fail
  refine (dt w.heap.size w1).mono ?_
  rintro e w2 ⟨rfl, e2⟩
  rw [e2]
  clear e2 w2
  go_wp2_with fail
  refine J4.out.mono ?_
  rintro e w3 ⟨v3, rfl, how3, cm⟩
  have dc := aa (aR.out.trans (cm.mono aR.out.size))
  have X3 := aa ((cm.block w.heap.size nZ).trans X1.out)
  obtain ⟨o3, g3, cap3, rfl, hta3, lK⟩ := kQ how3
  have vc := zL how3
  have IP := aa hta3
  have JX : Hid (bB ts ≠ [] -> w1.heap.size <= g3) := fun bU => (cK how3 g3 (lK bU)).2
  have x3 := cell_of X3.out 0
  have f3 := aj X3.out 0
  have NY := ad X3.out
  simp only [List.getElem?_toArray, List.getElem?_cons_zero] at x3
  clear cm how3 hta3 lK J4
  cases hly : cS ts with
  | false =>
   have HS : Hid (eh s = false) := qJ.out.trans hly
   have me : Hid (Below w.heap.size w (w3.setCell ⟨w.heap.size, 0, none⟩ (.slice o3 (bB ts).length cap3))) := dc.out.setCell (p := ⟨w.heap.size, 0, none⟩) U0 _
   clear hly
   go_wp2_with fail
   refine (cX w.heap.size _).mono ?_
   rintro e w4 ⟨rfl, rfl⟩
   unfold ey
   go_wp2
   exact ⟨rfl, me.out, .inr ⟨HS.out, rfl⟩⟩
  | true =>
   have HS : Hid (eh s = true) := qJ.out.trans hly
   obtain ⟨aC, Jm⟩ := dr.out hly
   rw [vt.out] at aC Jm
   have bU : bB ts ≠ [] := aC.ne
   have gK := JX.out bU
   obtain ⟨th, hlt3, hat3⟩ := IP.out bU
   subst th
   have me : Hid (Below w.heap.size w (w3.setCell ⟨w.heap.size, 0, none⟩ (.slice (some ⟨g3, 0, none⟩) (bB ts).length cap3))) := dc.out.setCell (p := ⟨w.heap.size, 0, none⟩) U0 _
   have Ip : Hid (Ir w.heap.size g3 (w3.setCell ⟨w.heap.size, 0, none⟩ (.slice (some ⟨g3, 0, none⟩) (bB ts).length cap3)) 0 (signs s)) := by
    rw [vt.out]
    have zo : g3 ≠ w.heap.size := by omega
    refine ⟨0, cap3, ?_, cw IP.out (by simp) (fun _ => az _ zo), zo, by omega, vc, aC⟩
    have h9 := ae (j := 0) (Value.slice (some ⟨g3, 0, none⟩) (bB ts).length cap3) X3.out
    simpa using h9
   clear hly aC hat3
   go_wp2_with fail
   refine (dt w.heap.size _).mono ?_
   rintro e w4 ⟨rfl, rfl⟩
   go_wp2
   go_ret
   exact ⟨me.out, .inl ⟨HS.out, w.heap.size, g3, rfl, Nat.le_refl _, by omega, Ip.out⟩⟩
end
theorem vy (a c : Nat) (w : World) :
 CallsD Tryz.prog 98 #[.pointer (some ⟨a, 0, none⟩), .pointer (some ⟨c, 0, none⟩)] .returning w fun e u' w' => e = .returned (.tuple #[]) /\ u' = .returning /\ w' = w := by
 refine callsD_of_wpS Tryz.func98 rfl fun c₀ cs hu => ?_
 apply wpS_seq
 apply wpS_region
 simp [wpOpsS, go_sem, recoverD, hu, Tryz.ntmps98, Exit.thenS]
 refine wpS_cond (t := false) (by simp [Act.eval, Array.replicate]) ?_
 simp only [Bool.false_eq_true, if_false]
 refine wpS_of_wp (wp_skip ?_)
 cases c₀
 simp_all [bodyPostS, results, Tryz.results98]
theorem eS (a c : Nat) (u : TypeId) (pv : Value) (older : List PanicEntry) (w : World) {c0 c1 c2 c3 c4 c5 v : Value} (ha : w.heap[a]? = some (.cells #[c0, c1, c2, c3, c4, c5] 34 (0, 0))) (hc : w.heap[c]? = some (.cells #[v] 4 (0, 0))) (bU : a ≠ c) :
 CallsD Tryz.prog 98 #[.pointer (some ⟨a, 0, none⟩), .pointer (some ⟨c, 0, none⟩)] (.panicking ({ v := .iface u pv, recovered := false } :: older)) w fun e u' w' =>
  e = .returned (.tuple #[]) /\ u' = .panicking ({ v := .iface u pv, recovered := true } :: older) /\ w'.heap[a]? = some (.cells zE 34 (0, 0)) /\ w'.heap[c]? = some (.cells #[.bool false] 4 (0, 0)) /\ Keeps (fun k => k < w.heap.size /\ k ≠ a /\ k ≠ c) w w' := by
 generalize hV : w.alloc (.cells #[.int .i64 0, .string ⟨#[]⟩, .int .i64 0, .slice none 0 0, .slice none 0 0, .slice none 0 0] 34) = V
 have hb : Below w.heap.size w V := by rw [<- hV]; exact (U4 w).alloc U0 _
 have hX : V.heap[w.heap.size]? = some (.cells #[.int .i64 0, .string ⟨#[]⟩, .int .i64 0, .slice none 0 0, .slice none 0 0, .slice none 0 0] 34 (0, 0)) := by rw [<- hV]; exact heap_alloc_new w _
 have hA := (hb.block a (ad ha)).trans ha
 have hC := (hb.block c (ad hc)).trans hc
 have mR := ad ha
 have sZ := ad hc
 obtain ⟨⟨x0, x1, x2, x3, x4, x5⟩, -⟩ := aG hX
 obtain ⟨⟨y0, y1, y2, y3, y4, y5⟩, f0, f1, f2, f3, f4, f5⟩ := aG hA
 have z0 := cell_of hC 0
 have g0 := aj hC 0
 simp only [List.getElem?_toArray, List.getElem?_cons_zero] at z0
 have HB := aa hb
 have HA := aa hA
 have HC := aa hC
 clear hb hA hC hX ha hc
 refine callsD_of_wpS Tryz.func98 rfl fun c₀ cs hu => ?_
 apply wpS_seq
 apply wpS_region
 simp [wpOpsS, go_sem, recoverD, hu, Tryz.ntmps98, Exit.thenS]
 refine wpS_cond (t := true) (by simp [Act.eval, Array.replicate]) ?_
 simp only [if_true]
 refine wpS_of_wp ?_
 go_wp2
 have fg := cU V a (.int .i64 0) (.string ⟨#[]⟩) (.int .i64 0) (.slice none 0 0) (.slice none 0 0) (.slice none 0 0)
 have h6 := aZ HA.out (.int .i64 0) (.string ⟨#[]⟩) (.int .i64 0) (.slice none 0 0) (.slice none 0 0) (.slice none 0 0)
 have L6 := (fg.block c (by show _ ≠ _; omega)).trans HC.out
 have PC : ((jp V a (.int .i64 0) (.string ⟨#[]⟩) (.int .i64 0) (.slice none 0 0) (.slice none 0 0) (.slice none 0 0)).setCell ⟨c, 0, none⟩ (.bool false)).heap[a]? = some (.cells zE 34 (0, 0)) := (az _ bU).trans h6
 have Rg : ((jp V a (.int .i64 0) (.string ⟨#[]⟩) (.int .i64 0) (.slice none 0 0) (.slice none 0 0) (.slice none 0 0)).setCell ⟨c, 0, none⟩ (.bool false)).heap[c]? = some (.cells #[.bool false] 4 (0, 0)) := ae (j := 0) _ L6
 have Q6 : Keeps (fun k => k < w.heap.size /\ k ≠ a /\ k ≠ c) w ((jp V a (.int .i64 0) (.string ⟨#[]⟩) (.int .i64 0) (.slice none 0 0) (.slice none 0 0) (.slice none 0 0)).setCell ⟨c, 0, none⟩ (.bool false)) :=
  ((cJ HB.out (fun k h => h.1)).trans (fg.mono fun k h => h.2.1)).trans (ak _ c 0 _ fun h => h.2.2 rfl)
 change bodyPostS _ _ _ _ _ _ _ _ ((jp V a (.int .i64 0) (.string ⟨#[]⟩) (.int .i64 0) (.slice none 0 0) (.slice none 0 0) (.slice none 0 0)).setCell ⟨c, 0, none⟩ (.bool false))
 generalize (jp V a (.int .i64 0) (.string ⟨#[]⟩) (.int .i64 0) (.slice none 0 0) (.slice none 0 0) (.slice none 0 0)).setCell ⟨c, 0, none⟩ (.bool false) = W at PC Rg Q6 ⊢
 simp [bodyPostS, results, Tryz.results98]
 exact ⟨PC, Rg, Q6⟩
section
variable {b g d : Nat} {w : World} {ts : List TokZ}
def onlyP (ex : bF) : bF := fun ts => (ar df ts).bind fun r => (ex r).bind fun p => (ar dZ p.2).bind fun q => some (p.1, q)
theorem yQ {ex : bF} {n : Nat} (h : Ir b g w d ts) (hn : ts.length <= n + 1) (hE : CI b g d n ex) : Calls Tryz.prog 45 #[.pointer (some ⟨b, 0, none⟩)] w (ResI b g d w ts (onlyP ex)) := by
 have au := h.lt
 have ec := h.glt
 have HE := aa hE
 have aq : Hid (Below w.heap.size w (w.alloc (.cells #[.int .i64 0, .string ⟨#[]⟩, .int .i64 0, .slice none 0 0, .slice none 0 0, .slice none 0 0] 34))) := (U4 w).alloc U0 _
 have H0 := aa (h.below aq.out)
 have X0 : Hid ((w.alloc (.cells #[.int .i64 0, .string ⟨#[]⟩, .int .i64 0, .slice none 0 0, .slice none 0 0, .slice none 0 0] 34)).heap[w.heap.size]? = some (.cells #[.int .i64 0, .string ⟨#[]⟩, .int .i64 0, .slice none 0 0, .slice none 0 0, .slice none 0 0] 34 (0, 0))) := heap_alloc_new w _
 clear h hE
 go_enter Tryz.func45, Tryz.ntmps45
 go_wp2_with fail
 refine (cN df (by decide) (by decide) H0.out).mono ?_
 rintro e w1 ⟨⟨q1, io, rfl, h1⟩ | ⟨io, rfl⟩, m1⟩
 case inr =>
  have M1 := aa ((Mv.of aq.out).trans m1)
  have HO : Hid (onlyP ex ts = none) := by
   unfold onlyP
   rw [io]
   exact rfl
  clear m1 io
  unfold ey
  go_wp2
  exact ⟨rfl, M1.out, .inr ⟨HO.out, rfl⟩⟩
 have H1 := aa h1
 have M1 := aa ((Mv.of aq.out).trans m1)
 have X1 := aa (af X0.out m1 (by omega))
 have xJ := aa io
 have fB := aQ io
 have nZ := ad X1.out
 clear h1 m1 io
 go_wp2_with fail
 refine (HE.out w1 q1 H1.out (by omega)).mono ?_
 rintro e w2 ⟨m2, ⟨t2, q2, cs, hh, ho, rfl, hFx, h2, hh2, hT⟩ | ⟨ho, rfl⟩⟩
 case inr =>
  have M2 := aa (M1.out.trans m2)
  have HO : Hid (onlyP ex ts = none) := by
   unfold onlyP
   rw [xJ.out]
   show (ex q1).bind _ = _
   rw [ho]
   exact rfl
  clear m2 ho
  unfold ey
  go_wp2
  exact ⟨rfl, M2.out, .inr ⟨HO.out, rfl⟩⟩
 have M2 := aa (M1.out.trans m2)
 have X2 := aa (af X1.out m2 (by omega))
 have gB := aa hFx
 have Ih := aa ho
 have jo := m2.size
 have mY := ad X2.out
 have IX := h2.lt
 have Nl := h2.glt
 obtain ⟨i0, i1, i2, j1, k1, l1, j2, k2, l2, j3, k3, l3, rfl⟩ := hFx
 have B2 : Hid (Below w2.heap.size w2 (w2.alloc (.cells #[.int .i64 i0, .string i1, .int .i64 i2, .slice j1 k1 l1, .slice j2 k2 l2, .slice j3 k3 l3] 34))) := (U4 w2).alloc U0 _
 have Y2 : Hid ((w2.alloc (.cells #[.int .i64 i0, .string i1, .int .i64 i2, .slice j1 k1 l1, .slice j2 k2 l2, .slice j3 k3 l3] 34)).heap[w2.heap.size]? = some (.cells #[.int .i64 i0, .string i1, .int .i64 i2, .slice j1 k1 l1, .slice j2 k2 l2, .slice j3 k3 l3] 34 (0, 0))) := heap_alloc_new w2 _
 have H2 := aa (h2.below B2.out)
 have J9 := aa (M2.out.trans (Mv.of (b := b) B2.out))
 have NP := aa (af X2.out (Mv.of (b := b) B2.out) (by omega))
 have T2 := aa (hT.keep (aw B2.out U0))
 clear m2 ho h2 hT
 go_wp2_with fail
 refine (cN dZ (by decide) (by decide) H2.out).mono ?_
 rintro e w3 ⟨⟨q3, iv, rfl, h3⟩ | ⟨iv, rfl⟩, m3⟩
 case inr =>
  have M3 := aa (J9.out.trans m3)
  have HO : Hid (onlyP ex ts = none) := by
   unfold onlyP
   rw [xJ.out]
   show (ex q1).bind _ = _
   rw [Ih.out]
   show (ar dZ q2).bind _ = _
   rw [iv]
   exact rfl
  clear m3 iv
  unfold ey
  go_wp2
  exact ⟨rfl, M3.out, .inr ⟨HO.out, rfl⟩⟩
 have M3 := aa (J9.out.trans m3)
 have X3 := aa (af NP.out m3 (by omega))
 have Y3 := aa (af Y2.out m3 (by omega))
 have H3 := aa h3
 have Jf := aQ iv
 have HO : Hid (onlyP ex ts = some (t2, q3)) := by
  unfold onlyP
  rw [xJ.out]
  show (ex q1).bind _ = _
  rw [Ih.out]
  show (ar dZ q2).bind _ = _
  rw [iv]
  exact rfl
 have Mw := m3.size
 have SP := B2.out.size
 have T3 := aa ((T2.out.keep fun k a1 a2 => m3.block k ⟨by omega, by omega⟩).up (s' := w.heap.size + 1) (u' := w3.heap.size) (by omega) (by omega) U0)
 have x3 := X3.out
 obtain ⟨⟨u0, u1, u2, u3, u4, u5⟩, f0, f1, f2, f3, f4, f5⟩ := aG x3
 have y3 := Y3.out
 obtain ⟨⟨r0, r1, r2, r3, r4, r5⟩, -⟩ := aG y3
 have eP : w.heap.size < w3.heap.size := ad x3
 clear x3 y3 m3 h3 iv
 go_wp2
 exact bodyPost_ret (v := .agg #[.int .i64 i0, .string i1, .int .i64 i2, .slice j1 k1 l1, .slice j2 k2 l2, .slice j3 k3 l3]) (results_cell_row rfl _ _ w.heap.size 34 _ (0, 0) _ rfl (aZ X3.out _ _ _ _ _ _) Tryz.underlying34 rfl (by kernel_rfl)) rfl (gG au ec HO.out M3.out H3.out (by omega) T3.out gB.out)
end
end Go.Proofs.YtfomndilhlgikajGreatDoor.Rd
