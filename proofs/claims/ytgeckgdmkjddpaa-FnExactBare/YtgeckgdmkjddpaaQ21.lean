/- Made of ZXP, ZXQ, ZWL. -/
import Derived.Test.YtgeckgdmkjddpaaZXNa
import Derived.Test.YtgeckgdmkjddpaaZXNb
import Derived.Test.YtgeckgdmkjddpaaQ20
import Derived.Test.YtgeckgdmkjddpaaRF
import Derived.Test.YtgeckgdmkjddpaaZWK
namespace Go.Proofs.Ytgeckgdmkjddpaa.Cp
open Go.ChangeShapes Go.WideShapes Go.ChangeAt Go.RowKit Go.Proofs.Ytgeckgdmkjddpaa.Vo Go.Proofs.Ytgeckgdmkjddpaa.Rd Go.Proofs.Ytgeckgdmkjddpaa.Br
set_option linter.unusedVariables false

theorem Mem.lens {K : Nat → Prop} {w0 w : World} {C M : Nat} {E D A : List Pe} {N : List Ne} {X : List Nat} (h : Mem K w0 C M E D A N X w) : E.length ≤ wtP E ∧ D.length ≤ wtP D ∧ A.length ≤ wtP A := by
  obtain ⟨_, _, _, _, h⟩ := h
  exact ⟨wtP_len (K := K) E fun q hq => (h.pE q hq).2.1, wtP_len (K := K) D fun q hq => (h.pD q hq).2.1, wtP_len (K := K) A fun q hq => (h.pA q hq).2.1⟩
/-- What the rounds hold. -/
def LC (K : Nat → Prop) (w0 : World) (C M : Nat) (G : World → List Nat → Prop) (n : Nat) (w : World) : Prop := ∃ (E D A : List Pe) (N : List Ne) (X : List Nat), Mem K w0 C M E D A N X w ∧ Owe w G (X ++ N.map Ne.g) ((E ++ D ++ A).map Pe.pd) ∧ n = wtP E + wtP D + wtP A + N.length ∧ n ≤ 1048577

set_option maxHeartbeats 8000000 in
set_option maxRecDepth 100000 in
theorem left_any {K : Nat → Prop} {w0 w : World} {C M : Nat} {E D A : List Pe} {N : List Ne} {X : List Nat} {G : World → List Nat → Prop} (hm : Mem K w0 C M E D A N X w) (ho : Owe w G (X ++ N.map Ne.g) ((E ++ D ++ A).map Pe.pd)) (hb : wtP E + wtP D + wtP A + N.length ≤ 1048577) :
    Calls Try.prog 29 #[.pointer (some ⟨C, 0, none⟩), .func (.func 30) #[.pointer (some ⟨C, 0, none⟩)] #[]] w fun r w' => r = .returned (.tuple #[]) ∧ ∃ (X1 : List Nat), Mem K w0 C M [] [] [] [] X1 w' ∧ Owe w' G X1 [] := by
  obtain ⟨mu, hmu⟩ := least_at (LC K w0 C M G)
  have HMU := hide hmu
  have HST : Hid (∃ n, LC K w0 C M G n w) := ⟨_, E, D, A, N, X, hm, ho, rfl, hb⟩
  clear hm ho hmu
  go_enter Try.func29, Try.ntmps29
  go_wp2
  go_loopw [] (fun wr => ∃ n, LC K w0 C M G n wr) (fun wr => mu wr)
  case atStart => exact HST.out
  case round =>
    obtain ⟨n1, i1⟩ := hrel
    obtain ⟨⟨E, D, A, N, X, hm, ho, hn, hnl⟩, hle⟩ := HMU.out wr n1 i1
    have hlens := hm.lens
    obtain ⟨vE, vD, vA, vN, hmv⟩ := hm
    obtain ⟨oE, cE, eE, -⟩ := hmv.rE.form
    obtain ⟨oD, cD, eD, -⟩ := hmv.rD.form
    obtain ⟨oA, cA, eA, -⟩ := hmv.rA.form
    rw [List.length_map] at eE eD eA
    have z0 : wr.cell? ⟨C, 0, none⟩ = some vE := (cell_of hmv.box 0).trans rfl
    have z2 : wr.cell? ⟨C, 2, none⟩ = some vD := (cell_of hmv.box 2).trans rfl
    have z4 : wr.cell? ⟨C, 4, none⟩ = some vA := (cell_of hmv.box 4).trans rfl
    rw [eE] at z0
    rw [eD] at z2
    rw [eA] at z4
    obtain ⟨lE, hlE⟩ : ∃ l, E.length = l := ⟨_, rfl⟩
    obtain ⟨lD, hlD⟩ : ∃ l, D.length = l := ⟨_, rfl⟩
    obtain ⟨lA, hlA⟩ : ∃ l, A.length = l := ⟨_, rfl⟩
    rw [hlE, hlD, hlA] at hlens
    rw [hlE] at z0
    rw [hlD] at z2
    rw [hlA] at z4
    have hw1 : IntKind.i64.wrap ((lE : Int) + lD) = lE + lD := by rw [IntKind.wrap_i64]; omega
    have hw2 : IntKind.i64.wrap ((lE : Int) + lD + lA) = lE + lD + lA := by rw [IntKind.wrap_i64]; omega
    have HMV : Hid (Mem K w0 C M E D A N X wr) := ⟨vE, vD, vA, vN, hmv⟩
    have HO := hide ho
    have HN := hide hn
    have HL := hide (And.intro hlE (And.intro hlD hlA))
    generalize hmm : mu wr = n at hn hnl hle HN
    have HMM := hide hmm
    clear hmm hmv ho hn i1 eE eD eA hlE hlD hlA
    by_cases hz : lE + lD + lA = 0
    · have h0 : lE = 0 := by omega
      have h1 : lD = 0 := by omega
      have h2 : lA = 0 := by omega
      subst h0 h1 h2
      go_upto_region 0 with fail
      go_quiet (fail)
      generalize hwd : wr.drewN _ = wd
      have hbd : Below wr.heap.size wr wd := by rw [← hwd]; exact below_drewN (Below.refl _ wr) _
      have HMD := hide (HMV.out.below hbd)
      have HOD : Hid (Owe wd G (X ++ N.map Ne.g) ((E ++ D ++ A).map Pe.pd)) := hide (HO.out.keep fun b hb9 => by rw [← hwd]; rfl)
      clear hbd hwd
      go_wp2_with fail
      have hE : E = [] := List.length_eq_zero_iff.1 HL.out.1
      have hD : D = [] := List.length_eq_zero_iff.1 HL.out.2.1
      have hA : A = [] := List.length_eq_zero_iff.1 HL.out.2.2
      subst hE hD hA
      refine (all_3 (P := []) HMD.out HOD.out (by have h9 := HN.out; omega)).mono ?_
      rintro r w2 ⟨rfl, X1, hm1, ho1⟩
      have HM1 := hide hm1
      have HO1 := hide ho1
      clear hm1 ho1
      go_wp2
      go_end0
      exact ⟨rfl, X1, HM1.out, HO1.out⟩
    · have hgt : (0 : Int) < (lE : Int) + lD + lA := by omega
      go_upto_region 0 with fail
      go_quiet (fail)
      generalize hwd : wr.drewN _ = wd
      have hbd : Below wr.heap.size wr wd := by rw [← hwd]; exact below_drewN (Below.refl _ wr) _
      have HMD := hide (HMV.out.below hbd)
      have HOD : Hid (Owe wd G (X ++ N.map Ne.g) ((E ++ D ++ A).map Pe.pd)) := hide (HO.out.keep fun b hb9 => by rw [← hwd]; rfl)
      clear hbd hwd z0 z2 z4
      have HA0 := hide (all_0 HMD.out HOD.out (by have h9 := HN.out; omega))
      go_wp2_with fail
      refine HA0.out.mono ?_
      rintro r w2 ⟨rfl, D1, A1, N1, X1, hm1, ho1, hl1, hs1⟩
      have HA1 := hide (all_1 (E := []) hm1 ho1 (by have h9 := HN.out; have e9 : wtP [] = 0 := rfl; omega))
      have HS1 := hide (And.intro hl1 hs1)
      clear hm1 ho1 hl1 hs1 HA0
      go_wp2_with fail
      refine HA1.out.mono ?_
      rintro r w3 ⟨rfl, E2, A2, N2, X2, hm2, ho2, hl2, hs2⟩
      have hl1 := HS1.out.1
      have hn9 := HN.out
      have e9 : wtP ([] : List Pe) = 0 := rfl
      have HA2 := hide (all_2 (D := []) hm2 (by simpa using ho2) (by omega))
      have HS2 := hide (And.intro hl2 hs2)
      clear hm2 ho2 hl2 hs2 HA1 hl1 hn9
      go_wp2_with fail
      refine HA2.out.mono ?_
      rintro r w4 ⟨rfl, E3, D3, N3, X3, hm3, ho3, hl3, hs3⟩
      have hless : wtP E3 + wtP D3 + N3.length < n := by
        have h1 := HS1.out.1
        have h2 := HS2.out.1
        have h3 := HN.out
        rcases HS1.out.2 with h4 | ⟨h4, h5, h6⟩
        · omega
        · subst h4 h5 h6
          rcases HS2.out.2 with h7 | ⟨h7, h8, h9⟩
          · omega
          · subst h7 h8 h9
            rcases hs3 with g1 | ⟨g1, -, -⟩
            · omega
            · subst g1
              have := HL.out
              simp at this
              omega
      have HIN : Hid (LC K w0 C M G (wtP E3 + wtP D3 + wtP [] + N3.length) w4) := ⟨E3, D3, [], N3, X3, hm3, by simpa using ho3, rfl, by omega⟩
      clear hm3 ho3 hl3 hs3 HA2
      go_wp2
      go_roundw
      case rel => exact ⟨_, HIN.out⟩
      case measure =>
        have h9 := (HMU.out w4 _ HIN.out).2
        have e9 : wtP ([] : List Pe) = 0 := rfl
        omega

set_option maxHeartbeats 1000000 in
theorem new_any (w : World) : Calls Try.prog 25 #[.bool true] w fun r w' => r = .returned (.pointer (some ⟨w.heap.size + 1, 0, none⟩)) ∧ w' = (w.alloc (.map #[] 0)).alloc (.cells (ecv (.slice none 0 0) (.slice none 0 0) (.slice none 0 0) (.slice none 0 0) w.heap.size) 85) := by
  have hmm := @run_makeMap Try.prog
  go_enter Try.func25, Try.ntmps25
  go_wp2
  go_ret
  refine ⟨?_, ?_⟩
  · simp
  · unfold ecv
    rfl
theorem mem_new (K : Nat → Prop) (w : World) : Mem K w (w.heap.size + 1) w.heap.size [] [] [] [] [] ((w.alloc (.map #[] 0)).alloc (.cells (ecv (.slice none 0 0) (.slice none 0 0) (.slice none 0 0) (.slice none 0 0) w.heap.size) 85)) := by
  have hb : Below w.heap.size w ((w.alloc (.map #[] 0)).alloc (.cells (ecv (.slice none 0 0) (.slice none 0 0) (.slice none 0 0) (.slice none 0 0) w.heap.size) 85)) := ((Below.refl _ w).alloc (Nat.le_refl _) _).alloc (by simp) _
  refine ⟨.slice none 0 0, .slice none 0 0, .slice none 0 0, .slice none 0 0, heap_alloc2_new w _ _, Row.nil _ _ _, Row.nil _ _ _, Row.nil _ _ _, Row.nil _ _ _, ⟨[], #[], 0, (Below.heap_alloc _ _ _ (by simp)).trans (heap_alloc_new w _), rfl⟩, fun p hp => (by cases hp), fun p hp => (by cases hp), fun p hp => (by cases hp), fun p hp => (by cases hp), ⟨?_, fun b hb => ?_⟩, hb⟩
  · simp [blks, ownL, Value.ownBlock]
  · simp [blks, ownL, Value.ownBlock] at hb
    simp only [World.size_alloc]
    omega
end Go.Proofs.Ytgeckgdmkjddpaa.Cp
namespace Go.Proofs.Ytgeckgdmkjddpaa.Cp
open Go.ChangeShapes Go.WideShapes Go.ChangeAt Go.RowKit Go.Proofs.Ytgeckgdmkjddpaa.Vo Go.Proofs.Ytgeckgdmkjddpaa.Rd Go.Proofs.Ytgeckgdmkjddpaa.Br
set_option linter.unusedVariables false

/-- A list of one list of kind i, not too heavy, can be held. -/
def HeldC (i : Nat) (tl : TypeId) : Prop := ∀ (K : Nat → Prop) (w : World) (h b j : Nat) (x : Tr), Br.Rd K w h ⟨i, some ⟨b, 0, none⟩, 1, 1⟩ [x] → (∀ k, K k → k < w.heap.size ∧ PlainAt w ⟨k, 0, none⟩) → wtI h i x ≤ 1048576 → w.heap[j]? = some (.cells #[.iface tl (.slice (some ⟨b, 0, none⟩) 1 1)] 111 (0, 0)) →
  Calls Try.prog 26 #[.func (.func 27) #[] #[], .slice (some ⟨j, 0, none⟩) 1 1] w fun r w' => r = .returned (.bool true) ∧ Below w.heap.size w w'
/-- A row of one. -/
theorem was_one {w : World} {i g : Nat} {t : Tr} {bs : List Nat} (h : Was w ⟨i, .slice (some ⟨g, 0, none⟩) 1 1, [t]⟩ bs) : ∃ H c b, sp w H i t c b ∧ bs = g :: b ∧ (∀ (j : Nat) u, c[j]? = some u → w.cell? ⟨g, j, none⟩ = some u) := by
  obtain ⟨H, -, css, bss, h1, h2, rfl⟩ := h
  match css, bss, h2 with
  | [c], [b], h2 =>
    obtain ⟨g', cap, e1, -, e3⟩ := h1.cell (by simp)
    simp only [Value.slice.injEq, Option.some.injEq, Addr.mk.injEq] at e1
    obtain ⟨⟨rfl, -, -⟩, -, -⟩ := e1
    refine ⟨H, c, b, h2.1, by simp [ownL, Value.ownBlock], fun j u hj => ?_⟩
    have h9 := e3 0 c j u rfl hj
    simpa using h9

set_option maxHeartbeats 8000000 in
set_option maxRecDepth 100000 in
theorem implBare_any {K : Nat → Prop} {h : Nat} (hheld : HeldC 0 58) (x : Tr) (cs : List Value) (w : World) (hr : (reads K w h).ex x cs) (hK : ∀ b, K b → b < w.heap.size ∧ PlainAt w ⟨b, 0, none⟩) (hw : (wts h).ex x ≤ 1048576) :
    Calls Try.prog 8 #[.agg cs.toArray] w (ResB ((brs h).ex x) w) := by
  obtain ⟨o1, c1, o2, c2, o3, c3, rfl⟩ := ex_form hr
  obtain ⟨W0, hW0⟩ : ∃ W0, (w.alloc (.cells #[.int .i64 x.k, .string x.s, .int .i64 x.n, .slice o1 x.l.length c1, .slice o2 x.ds.length c2, .slice o3 x.al.length c3] 32)).alloc (.cells #[.int .i64 0, .string ⟨#[]⟩, .int .i64 0, .slice none 0 0, .slice none 0 0, .slice none 0 0] 32) = W0 := ⟨_, rfl⟩
  obtain ⟨W1, hW1⟩ : ∃ W1, W0.alloc (.cells #[.int .i64 x.k, .string x.s, .int .i64 x.n, .slice o1 x.l.length c1, .slice o2 x.ds.length c2, .slice o3 x.al.length c3] 32) = W1 := ⟨_, rfl⟩
  have hb0 : Below w.heap.size w W0 := by rw [← hW0]; exact ((Below.refl _ w).alloc (Nat.le_refl _) _).alloc (by simp) _
  have hs0 : W0.heap.size = w.heap.size + 1 + 1 := by rw [← hW0]; simp
  have hb1 : Below W0.heap.size W0 W1 := by rw [← hW1]; exact (Below.refl _ W0).alloc (Nat.le_refl _) _
  have hy0 : W0.heap[w.heap.size]? = some (.cells #[.int .i64 x.k, .string x.s, .int .i64 x.n, .slice o1 x.l.length c1, .slice o2 x.ds.length c2, .slice o3 x.al.length c3] 32 (0, 0)) := by rw [← hW0]; exact (Below.heap_alloc _ _ _ (by simp)).trans (heap_alloc_new w _)
  have y0 : W0.cell? ⟨w.heap.size, 0, none⟩ = some (.int .i64 x.k) := (cell_of hy0 0).trans rfl
  have y1 : W0.cell? ⟨w.heap.size, 1, none⟩ = some (.string x.s) := (cell_of hy0 1).trans rfl
  have y2 : W0.cell? ⟨w.heap.size, 2, none⟩ = some (.int .i64 x.n) := (cell_of hy0 2).trans rfl
  have y3 : W0.cell? ⟨w.heap.size, 3, none⟩ = some (.slice o1 x.l.length c1) := (cell_of hy0 3).trans rfl
  have y4 : W0.cell? ⟨w.heap.size, 4, none⟩ = some (.slice o2 x.ds.length c2) := (cell_of hy0 4).trans rfl
  have y5 : W0.cell? ⟨w.heap.size, 5, none⟩ = some (.slice o3 x.al.length c3) := (cell_of hy0 5).trans rfl
  have hz0 : W0.heap[w.heap.size + 1]? = some (.cells #[.int .i64 0, .string ⟨#[]⟩, .int .i64 0, .slice none 0 0, .slice none 0 0, .slice none 0 0] 32 (0, 0)) := by rw [← hW0]; exact heap_alloc2_new w _ _
  have hx1 : W1.heap[w.heap.size + 1 + 1]? = some (.cells #[.int .i64 x.k, .string x.s, .int .i64 x.n, .slice o1 x.l.length c1, .slice o2 x.ds.length c2, .slice o3 x.al.length c3] 32 (0, 0)) := by rw [← hs0, ← hW1]; exact heap_alloc_new W0 _
  obtain ⟨W2, hW2⟩ : ∃ W2, W1.alloc (.cells #[.iface 58 (.slice (some ⟨w.heap.size + 1 + 1, 0, none⟩) 1 1)] 111) = W2 := ⟨_, rfl⟩
  have hb2 : Below W1.heap.size W1 W2 := by rw [← hW2]; exact (Below.refl _ W1).alloc (Nat.le_refl _) _
  have hi2 : W2.heap[W1.heap.size]? = some (.cells #[.iface 58 (.slice (some ⟨w.heap.size + 1 + 1, 0, none⟩) 1 1)] 111 (0, 0)) := by rw [← hW2]; exact heap_alloc_new W1 _
  have hx2 := (hb2.block _ (heap_lt hx1)).trans hx1
  have hz2 := (hb2.block _ (Nat.lt_of_lt_of_le (heap_lt hz0) hb1.size)).trans ((hb1.block _ (heap_lt hz0)).trans hz0)
  have hbw : Below w.heap.size w W2 := (hb0.trans (hb1.mono hb0.size)).trans (hb2.mono (Nat.le_trans hb0.size hb1.size))
  obtain ⟨K', hK'⟩ : ∃ K' : Nat → Prop, ∀ k, K' k ↔ (K k ∨ k = w.heap.size + 1 + 1) := ⟨fun k => K k ∨ k = w.heap.size + 1 + 1, fun k => Iff.rfl⟩
  have hxl := heap_lt hx2
  have hK2 : ∀ k, K' k → k < W2.heap.size ∧ PlainAt W2 ⟨k, 0, none⟩ := fun k hk => by
    rcases (hK' k).1 hk with hk | rfl
    · obtain ⟨h1, c, e, h2⟩ := hK k hk
      exact ⟨Nat.lt_of_lt_of_le h1 hbw.size, c, e, (hbw.block k h1).trans h2⟩
    · exact ⟨hxl, _, _, hx2⟩
  have hrd : ∀ W, Below W2.heap.size W2 W → Br.Rd K' W h ⟨0, some ⟨w.heap.size + 1 + 1, 0, none⟩, 1, 1⟩ [x] := fun W hbW => by
    refine ⟨by show 0 < 3; omega, by simp, rfl, ⟨by show 1 ≤ maxLen; unfold maxLen; omega, Nat.le_refl _⟩, fun _ => ⟨w.heap.size + 1 + 1, 0, rfl, (hK' _).2 (.inr rfl), Nat.lt_of_lt_of_le hxl hbW.size, fun i t ht => ?_⟩⟩
    cases i with
    | zero =>
      simp at ht
      subst ht
      refine ⟨_, rfl, fun q u hq => ?_, (reads_frame (Stays.of (hbw.trans (hbW.mono hbw.size))) (fun b hb => (hK' b).2 (.inl hb)) h).1 x _ hr⟩
      have h9 := cell_of ((hbW.block _ hxl).trans hx2) q
      rw [List.getElem?_toArray, hq] at h9
      simpa using h9
    | succ i => simp at ht
  have HH := hide (hheld K' W2 h (w.heap.size + 1 + 1) W1.heap.size x (hrd W2 (Below.refl _ _)) hK2 hw hi2)
  have HRD := hide hrd
  have HZ2 := hide hz2
  have HBW := hide hbw
  clear hr hb0 hz0 hx1 hy0 hb2 hi2 hx2 hz2 hbw hK2 hrd hb1
  go_enter Try.func8, Try.ntmps8
  go_wp2_with fail
  refine HH.out.mono ?_
  rintro r W3 ⟨rfl, hb3⟩
  have HB3 := hide hb3
  clear hb3 HH hW2
  go_wp2_with fail
  refine (new_any W3).mono ?_
  rintro r W4 ⟨rfl, hW4⟩
  have hm4 := mem_new K' W3
  rw [← hW4] at hm4
  obtain ⟨-, -, -, -, hrow⟩ := HRD.out W3 HB3.out
  have HC0 := hide (copy_0 (w := W4) hm4 h [x] (some ⟨w.heap.size + 1 + 1, 0, none⟩) 1 hrow (Nat.le_refl _) (by simp) (Nat.zero_le _))
  clear hm4 hW4 hrow
  go_wp2_with fail
  refine HC0.out.mono ?_
  rintro r V ⟨v, F, rfl, hn, hmV, -⟩
  rcases hn with ⟨h9, -, -⟩ | ⟨-, g, rfl, rfl⟩
  · cases h9
  have HL := hide (left_any (X := []) (N := []) (E := [(⟨0, g, h, [x]⟩ : Pe)]) (D := []) (A := []) (G := fun w' bs => Was w' (Pe.pd (⟨0, g, h, [x]⟩ : Pe)) bs) hmV (Owe.start _) (by
    have e9 : wtP ([] : List Pe) = 0 := rfl
    have e8 : wtP [(⟨0, g, h, [x]⟩ : Pe)] = lw (wtI h 0) [x] := by unfold wtP; simp [Pe.wt]
    have e7 : lw (wtI h 0) [x] = 1 + (wts h).ex x := by unfold lw; simp; rfl
    rw [e8, e7, e9]
    simp only [List.length_nil]
    omega))
  clear hmV HC0
  go_wp2_with fail
  refine HL.out.mono ?_
  rintro r Z ⟨rfl, X1, hmZ, hoZ⟩
  obtain ⟨bs, hwas, hperm⟩ := hoZ.done
  obtain ⟨H, c, b, hsp, hbs, hcell⟩ := was_one hwas
  obtain ⟨mE, mD, mA, mN, hmv⟩ := hmZ
  have hold := hmv.old
  have hbR : InR W3.heap.size Z.heap.size b := by
    have h9 : ∀ z ∈ g :: b, W3.heap.size ≤ z ∧ z < Z.heap.size := fun z hz => hmv.apart.2 z (by
      rw [blks_split]
      exact List.mem_append_right _ (hperm.mem_iff.1 (by rw [hbs]; exact hz)))
    have h8 : X1.Nodup := by
      have h7 := hmv.apart.1
      rw [blks_split] at h7
      exact (List.nodup_append.1 h7).2.1
    have h6 := hperm.nodup_iff.2 h8
    rw [hbs] at h6
    exact ⟨(List.nodup_cons.1 h6).2, fun z hz => h9 z (List.mem_cons_of_mem _ hz)⟩
  have htree : TreeT Z W3.heap.size Z.heap.size H 0 ((brs h).ex x) c := ⟨b, hsp, hbR⟩
  obtain ⟨q1, r1, q2, r2, q3, r3, hcf⟩ := htree.exp
  subst hcf
  have m0 : Z.cell? ⟨g, 0, none⟩ = _ := hcell 0 _ rfl
  have m1 : Z.cell? ⟨g, 1, none⟩ = _ := hcell 1 _ rfl
  have m2 : Z.cell? ⟨g, 2, none⟩ = _ := hcell 2 _ rfl
  have m3 : Z.cell? ⟨g, 3, none⟩ = _ := hcell 3 _ rfl
  have m4 : Z.cell? ⟨g, 4, none⟩ = _ := hcell 4 _ rfl
  have m5 : Z.cell? ⟨g, 5, none⟩ = _ := hcell 5 _ rfl
  have hz9 : w.heap.size + 1 < W2.heap.size := heap_lt HZ2.out
  have hzZ : Z.heap[w.heap.size + 1]? = some (.cells #[.int .i64 0, .string ⟨#[]⟩, .int .i64 0, .slice none 0 0, .slice none 0 0, .slice none 0 0] 32 (0, 0)) := (hold.block _ (Nat.lt_of_lt_of_le hz9 HB3.out.size)).trans ((HB3.out.block _ hz9).trans HZ2.out)
  obtain ⟨⟨g0, g1, g2, g3, g4, g5⟩, f0, f1, f2, f3, f4, f5⟩ := box6 hzZ
  have HZZ := hide hzZ
  have HT := hide htree
  have HBZ : Hid (Below w.heap.size w Z) := HBW.out.trans ((HB3.out.mono HBW.out.size).trans (hold.mono (Nat.le_trans HBW.out.size HB3.out.size)))
  have hge : w.heap.size + 1 < Z.heap.size := heap_lt hzZ
  have hgx := (hmv.apart.2 g (by
    rw [blks_split]
    exact List.mem_append_right _ (hperm.mem_iff.1 (by rw [hbs]; simp)))).1
  have hgn : g ≠ w.heap.size + 1 := by
    have := HB3.out.size
    omega
  clear hmv hold hwas hperm hoZ hcell hbR htree hzZ HL
  go_wp2
  have hks := st6_keeps Z (w.heap.size + 1) (.int .i64 ((brs h).ex x).k) (.string ((brs h).ex x).s) (.int .i64 ((brs h).ex x).n) (.slice q1 ((brs h).ex x).l.length r1) (.slice q2 ((brs h).ex x).ds.length r2) (.slice q3 ((brs h).ex x).al.length r3)
  refine bodyPost_ret (v := .agg #[.int .i64 ((brs h).ex x).k, .string ((brs h).ex x).s, .int .i64 ((brs h).ex x).n, .slice q1 ((brs h).ex x).l.length r1, .slice q2 ((brs h).ex x).ds.length r2, .slice q3 ((brs h).ex x).al.length r3]) ?_ rfl ?_
  · exact results_cell_row rfl _ _ (w.heap.size + 1) 32 _ (0, 0) _ rfl (st6_at HZZ.out _ _ _ _ _ _) Try.underlying32 rfl (by kernel_rfl)
  · refine ⟨_, H, rfl, ?_, HBZ.out.trans ⟨hks.os, hks.tape, hks.output, hks.size, fun b9 hb9 => hks.block b9 (by show b9 ≠ _; omega)⟩⟩
    have h4 := HB3.out.size
    have h5 := HBW.out.size
    exact (HT.out.keep fun b9 h9 _ => hks.block b9 (by show b9 ≠ _; omega)).up (by omega) hks.size (Nat.le_refl _)

set_option maxHeartbeats 8000000 in
set_option maxRecDepth 100000 in
theorem implBareDec_any {K : Nat → Prop} {h : Nat} (hheld : HeldC 1 97) (x : Tr) (cs : List Value) (w : World) (hr : (reads K w h).de x cs) (hK : ∀ b, K b → b < w.heap.size ∧ PlainAt w ⟨b, 0, none⟩) (hw : (wts h).de x ≤ 1048576) :
    Calls Try.prog 15 #[.agg cs.toArray] w (ResB ((brs h).de x) w) := by
  obtain ⟨y, o, c, o1, c1, o2, c2, o3, c3, o4, c4, rfl⟩ := de_form hr
  obtain ⟨W0, hW0⟩ : ∃ W0, (w.alloc (.cells #[.string x.s, .slice o x.ss.length c, .int .i64 y.k, .string y.s, .int .i64 y.n, .slice o1 y.l.length c1, .slice o2 y.ds.length c2, .slice o3 y.al.length c3, .slice o4 x.ds.length c4] 44)).alloc (.cells #[.int .i64 0, .string ⟨#[]⟩, .int .i64 0, .slice none 0 0, .slice none 0 0, .slice none 0 0] 32) = W0 := ⟨_, rfl⟩
  obtain ⟨W1, hW1⟩ : ∃ W1, W0.alloc (.cells #[.string x.s, .slice o x.ss.length c, .int .i64 y.k, .string y.s, .int .i64 y.n, .slice o1 y.l.length c1, .slice o2 y.ds.length c2, .slice o3 y.al.length c3, .slice o4 x.ds.length c4] 44) = W1 := ⟨_, rfl⟩
  have hb0 : Below w.heap.size w W0 := by rw [← hW0]; exact ((Below.refl _ w).alloc (Nat.le_refl _) _).alloc (by simp) _
  have hs0 : W0.heap.size = w.heap.size + 1 + 1 := by rw [← hW0]; simp
  have hb1 : Below W0.heap.size W0 W1 := by rw [← hW1]; exact (Below.refl _ W0).alloc (Nat.le_refl _) _
  have hy0 : W0.heap[w.heap.size]? = some (.cells #[.string x.s, .slice o x.ss.length c, .int .i64 y.k, .string y.s, .int .i64 y.n, .slice o1 y.l.length c1, .slice o2 y.ds.length c2, .slice o3 y.al.length c3, .slice o4 x.ds.length c4] 44 (0, 0)) := by rw [← hW0]; exact (Below.heap_alloc _ _ _ (by simp)).trans (heap_alloc_new w _)
  have y0 : W0.cell? ⟨w.heap.size, 0, none⟩ = some (.string x.s) := (cell_of hy0 0).trans rfl
  have y1 : W0.cell? ⟨w.heap.size, 1, none⟩ = some (.slice o x.ss.length c) := (cell_of hy0 1).trans rfl
  have y2 : W0.cell? ⟨w.heap.size, 2, none⟩ = some (.int .i64 y.k) := (cell_of hy0 2).trans rfl
  have y3 : W0.cell? ⟨w.heap.size, 3, none⟩ = some (.string y.s) := (cell_of hy0 3).trans rfl
  have y4 : W0.cell? ⟨w.heap.size, 4, none⟩ = some (.int .i64 y.n) := (cell_of hy0 4).trans rfl
  have y5 : W0.cell? ⟨w.heap.size, 5, none⟩ = some (.slice o1 y.l.length c1) := (cell_of hy0 5).trans rfl
  have y6 : W0.cell? ⟨w.heap.size, 6, none⟩ = some (.slice o2 y.ds.length c2) := (cell_of hy0 6).trans rfl
  have y7 : W0.cell? ⟨w.heap.size, 7, none⟩ = some (.slice o3 y.al.length c3) := (cell_of hy0 7).trans rfl
  have y8 : W0.cell? ⟨w.heap.size, 8, none⟩ = some (.slice o4 x.ds.length c4) := (cell_of hy0 8).trans rfl
  have hz0 : W0.heap[w.heap.size + 1]? = some (.cells #[.int .i64 0, .string ⟨#[]⟩, .int .i64 0, .slice none 0 0, .slice none 0 0, .slice none 0 0] 32 (0, 0)) := by rw [← hW0]; exact heap_alloc2_new w _ _
  have hx1 : W1.heap[w.heap.size + 1 + 1]? = some (.cells #[.string x.s, .slice o x.ss.length c, .int .i64 y.k, .string y.s, .int .i64 y.n, .slice o1 y.l.length c1, .slice o2 y.ds.length c2, .slice o3 y.al.length c3, .slice o4 x.ds.length c4] 44 (0, 0)) := by rw [← hs0, ← hW1]; exact heap_alloc_new W0 _
  obtain ⟨W2, hW2⟩ : ∃ W2, W1.alloc (.cells #[.iface 97 (.slice (some ⟨w.heap.size + 1 + 1, 0, none⟩) 1 1)] 111) = W2 := ⟨_, rfl⟩
  have hb2 : Below W1.heap.size W1 W2 := by rw [← hW2]; exact (Below.refl _ W1).alloc (Nat.le_refl _) _
  have hi2 : W2.heap[W1.heap.size]? = some (.cells #[.iface 97 (.slice (some ⟨w.heap.size + 1 + 1, 0, none⟩) 1 1)] 111 (0, 0)) := by rw [← hW2]; exact heap_alloc_new W1 _
  have hx2 := (hb2.block _ (heap_lt hx1)).trans hx1
  have hz2 := (hb2.block _ (Nat.lt_of_lt_of_le (heap_lt hz0) hb1.size)).trans ((hb1.block _ (heap_lt hz0)).trans hz0)
  have hbw : Below w.heap.size w W2 := (hb0.trans (hb1.mono hb0.size)).trans (hb2.mono (Nat.le_trans hb0.size hb1.size))
  obtain ⟨K', hK'⟩ : ∃ K' : Nat → Prop, ∀ k, K' k ↔ (K k ∨ k = w.heap.size + 1 + 1) := ⟨fun k => K k ∨ k = w.heap.size + 1 + 1, fun k => Iff.rfl⟩
  have hxl := heap_lt hx2
  have hK2 : ∀ k, K' k → k < W2.heap.size ∧ PlainAt W2 ⟨k, 0, none⟩ := fun k hk => by
    rcases (hK' k).1 hk with hk | rfl
    · obtain ⟨h1, c, e, h2⟩ := hK k hk
      exact ⟨Nat.lt_of_lt_of_le h1 hbw.size, c, e, (hbw.block k h1).trans h2⟩
    · exact ⟨hxl, _, _, hx2⟩
  have hrd : ∀ W, Below W2.heap.size W2 W → Br.Rd K' W h ⟨1, some ⟨w.heap.size + 1 + 1, 0, none⟩, 1, 1⟩ [x] := fun W hbW => by
    refine ⟨by show 1 < 3; omega, by simp, rfl, ⟨by show 1 ≤ maxLen; unfold maxLen; omega, Nat.le_refl _⟩, fun _ => ⟨w.heap.size + 1 + 1, 0, rfl, (hK' _).2 (.inr rfl), Nat.lt_of_lt_of_le hxl hbW.size, fun i t ht => ?_⟩⟩
    cases i with
    | zero =>
      simp at ht
      subst ht
      refine ⟨_, rfl, fun q u hq => ?_, (reads_frame (Stays.of (hbw.trans (hbW.mono hbw.size))) (fun b hb => (hK' b).2 (.inl hb)) h).2.1 x _ hr⟩
      have h9 := cell_of ((hbW.block _ hxl).trans hx2) q
      rw [List.getElem?_toArray, hq] at h9
      simpa using h9
    | succ i => simp at ht
  have HH := hide (hheld K' W2 h (w.heap.size + 1 + 1) W1.heap.size x (hrd W2 (Below.refl _ _)) hK2 hw hi2)
  have HRD := hide hrd
  have HZ2 := hide hz2
  have HBW := hide hbw
  clear hr hb0 hz0 hx1 hy0 hb2 hi2 hx2 hz2 hbw hK2 hrd hb1
  go_enter Try.func15, Try.ntmps15
  go_wp2_with fail
  refine HH.out.mono ?_
  rintro r W3 ⟨rfl, hb3⟩
  have HB3 := hide hb3
  clear hb3 HH hW2
  go_wp2_with fail
  refine (new_any W3).mono ?_
  rintro r W4 ⟨rfl, hW4⟩
  have hm4 := mem_new K' W3
  rw [← hW4] at hm4
  obtain ⟨-, -, -, -, hrow⟩ := HRD.out W3 HB3.out
  have HC0 := hide (copy_1 (w := W4) hm4 h [x] (some ⟨w.heap.size + 1 + 1, 0, none⟩) 1 hrow (Nat.le_refl _) (by simp) (Nat.zero_le _))
  clear hm4 hW4 hrow
  go_wp2_with fail
  refine HC0.out.mono ?_
  rintro r V ⟨v, F, rfl, hn, hmV, -⟩
  rcases hn with ⟨h9, -, -⟩ | ⟨-, g, rfl, rfl⟩
  · cases h9
  have HL := hide (left_any (X := []) (N := []) (E := []) (D := [(⟨1, g, h, [x]⟩ : Pe)]) (A := []) (G := fun w' bs => Was w' (Pe.pd (⟨1, g, h, [x]⟩ : Pe)) bs) hmV (Owe.start _) (by
    have e9 : wtP ([] : List Pe) = 0 := rfl
    have e8 : wtP [(⟨1, g, h, [x]⟩ : Pe)] = lw (wtI h 1) [x] := by unfold wtP; simp [Pe.wt]
    have e7 : lw (wtI h 1) [x] = 1 + (wts h).de x := by unfold lw; simp; rfl
    rw [e8, e7, e9]
    simp only [List.length_nil]
    omega))
  clear hmV HC0
  go_wp2_with fail
  refine HL.out.mono ?_
  rintro r Z ⟨rfl, X1, hmZ, hoZ⟩
  obtain ⟨bs, hwas, hperm⟩ := hoZ.done
  obtain ⟨H, c, b, hsp, hbs, hcell⟩ := was_one hwas
  obtain ⟨mE, mD, mA, mN, hmv⟩ := hmZ
  have hold := hmv.old
  have hbR : InR W3.heap.size Z.heap.size b := by
    have h9 : ∀ z ∈ g :: b, W3.heap.size ≤ z ∧ z < Z.heap.size := fun z hz => hmv.apart.2 z (by
      rw [blks_split]
      exact List.mem_append_right _ (hperm.mem_iff.1 (by rw [hbs]; exact hz)))
    have h8 : X1.Nodup := by
      have h7 := hmv.apart.1
      rw [blks_split] at h7
      exact (List.nodup_append.1 h7).2.1
    have h6 := hperm.nodup_iff.2 h8
    rw [hbs] at h6
    exact ⟨(List.nodup_cons.1 h6).2, fun z hz => h9 z (List.mem_cons_of_mem _ hz)⟩
  have hdec : tDec x.s [] ((brs h).de x) [] = tDec x.s [] ((brs h).de x) [] := rfl
  obtain ⟨H, rfl⟩ : ∃ H', H = H' + 1 := by
    cases H with
    | zero => exact hsp.elim
    | succ H => exact ⟨H, rfl⟩
  obtain ⟨-, -, -, -, e9, v9, ce, u9, b1, b2, b3, hl9, rfl, rfl, -, he9, -⟩ := hsp
  have hee : e9 = (brs h).de x := by
    have h9 : [(brs h).de x] = [e9] := hl9
    simpa using h9.symm
  subst hee
  have htree : TreeT Z W3.heap.size Z.heap.size H 0 ((brs h).de x) ce := ⟨b2, he9, hbR.left.right⟩
  have hcel : ∀ (j : Nat) u, ce[j]? = some u → Z.cell? ⟨g, j + 2, none⟩ = some u := fun j u hj => hcell (j + 2) u (by
    have hj2 : j < ce.length := (List.getElem?_eq_some_iff.1 hj).1
    rw [List.getElem?_append_left (by simp; omega), List.getElem?_append_right (by simp)]
    simpa using hj)
  obtain ⟨q1, r1, q2, r2, q3, r3, hcf⟩ := htree.exp
  subst hcf
  have m0 : Z.cell? ⟨g, 2, none⟩ = _ := hcel 0 _ rfl
  have m1 : Z.cell? ⟨g, 3, none⟩ = _ := hcel 1 _ rfl
  have m2 : Z.cell? ⟨g, 4, none⟩ = _ := hcel 2 _ rfl
  have m3 : Z.cell? ⟨g, 5, none⟩ = _ := hcel 3 _ rfl
  have m4 : Z.cell? ⟨g, 6, none⟩ = _ := hcel 4 _ rfl
  have m5 : Z.cell? ⟨g, 7, none⟩ = _ := hcel 5 _ rfl
  have hz9 : w.heap.size + 1 < W2.heap.size := heap_lt HZ2.out
  have hzZ : Z.heap[w.heap.size + 1]? = some (.cells #[.int .i64 0, .string ⟨#[]⟩, .int .i64 0, .slice none 0 0, .slice none 0 0, .slice none 0 0] 32 (0, 0)) := (hold.block _ (Nat.lt_of_lt_of_le hz9 HB3.out.size)).trans ((HB3.out.block _ hz9).trans HZ2.out)
  obtain ⟨⟨g0, g1, g2, g3, g4, g5⟩, f0, f1, f2, f3, f4, f5⟩ := box6 hzZ
  have HZZ := hide hzZ
  have HT := hide htree
  have HBZ : Hid (Below w.heap.size w Z) := HBW.out.trans ((HB3.out.mono HBW.out.size).trans (hold.mono (Nat.le_trans HBW.out.size HB3.out.size)))
  have hge : w.heap.size + 1 < Z.heap.size := heap_lt hzZ
  have hgx := (hmv.apart.2 g (by
    rw [blks_split]
    exact List.mem_append_right _ (hperm.mem_iff.1 (by rw [hbs]; simp)))).1
  have hgn : g ≠ w.heap.size + 1 := by
    have := HB3.out.size
    omega
  clear hmv hold hwas hperm hoZ hcell hbR htree hzZ HL
  go_wp2
  have hks := st6_keeps Z (w.heap.size + 1) (.int .i64 ((brs h).de x).k) (.string ((brs h).de x).s) (.int .i64 ((brs h).de x).n) (.slice q1 ((brs h).de x).l.length r1) (.slice q2 ((brs h).de x).ds.length r2) (.slice q3 ((brs h).de x).al.length r3)
  refine bodyPost_ret (v := .agg #[.int .i64 ((brs h).de x).k, .string ((brs h).de x).s, .int .i64 ((brs h).de x).n, .slice q1 ((brs h).de x).l.length r1, .slice q2 ((brs h).de x).ds.length r2, .slice q3 ((brs h).de x).al.length r3]) ?_ rfl ?_
  · exact results_cell_row rfl _ _ (w.heap.size + 1) 32 _ (0, 0) _ rfl (st6_at HZZ.out _ _ _ _ _ _) Try.underlying32 rfl (by kernel_rfl)
  · refine ⟨_, H, rfl, ?_, HBZ.out.trans ⟨hks.os, hks.tape, hks.output, hks.size, fun b9 hb9 => hks.block b9 (by show b9 ≠ _; omega)⟩⟩
    have h4 := HB3.out.size
    have h5 := HBW.out.size
    exact (HT.out.keep fun b9 h9 _ => hks.block b9 (by show b9 ≠ _; omega)).up (by omega) hks.size (Nat.le_refl _)
end Go.Proofs.Ytgeckgdmkjddpaa.Cp
namespace Go.Proofs.Ytgeckgdmkjddpaa.Hd
open Go.ChangeShapes Go.WideShapes Go.ChangeAt Go.RowKit Go.Proofs.Ytgeckgdmkjddpaa.Br Go.Proofs.Ytgeckgdmkjddpaa.Cp

theorem held_0 : HeldC 0 58 := fun K w h b j x hr hK hw hj => held_I (i := 0) K w h b j x hr hK hw hj
theorem held_1 : HeldC 1 97 := fun K w h b j x hr hK hw hj => held_I (i := 1) K w h b j x hr hK hw hj
end Go.Proofs.Ytgeckgdmkjddpaa.Hd
