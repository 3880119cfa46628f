/- DecText, both sides. -/
import Derived.Test.YtdegcmagklbgoajGreatDoorEN
import Derived.Test.YtdegcmagklbgoajGreatDoorYQ
namespace Go.Proofs.YtdegcmagklbgoajGreatDoor
open Go.ChangeShapes Go.WideShapes Go.ChangeAt Go.RowKit
set_option linter.unusedVariables false
set_option linter.unusedSimpArgs false

theorem filled_dec {R : Tr → List Value → Prop} {y : Tr} {a0 a1 a2 a3 a4 a5 a6 a7 a8 : Value} (h : R y [a0, a1, a2, a3, a4, a5, a6, a7, a8]) : Filled R 9 #[a0, a1, a2, a3, a4, a5, a6, a7, a8] [y] := by
  intro k x hx
  match k, hx with
  | 0, hx =>
    have : y = x := by simpa using hx
    subst this
    exact ⟨_, rfl, fun j u hu => by simpa using hu, h⟩
  | k + 1, hx => simp at hx
def decOkB (h : Nat) (x : Tr) : Bool := decsB (okz h).de [x] 6 0 && decide (sumZ (cnt h).de [x] ≤ 200)
theorem decOkB_of {h : Nat} {x : Tr} (H : decOkB h x = true) : (okz h).de x 0 = true ∧ (cnt h).de x ≤ 200 := by
  unfold decOkB at H
  rw [Bool.and_eq_true] at H
  refine ⟨(decs_of H.1).2 x (by simp), ?_⟩
  have := of_decide_eq_true H.2
  simpa [sumZ] using this
def decT (h : Nat) (x : Tr) (n : Int) : List UInt8 := if (decOkB h x && inB n 0 60) = true then padL n.toNat ++ (txt h).de x n.toNat else []
set_option maxHeartbeats 2000000 in
set_option maxRecDepth 100000 in
theorem specDecText_any {K : Nat → Prop} {w : World} {h : Nat} {x : Tr} {cs : List Value} {n : Int} (hr : (reads K w h).de x cs) :
    Calls Tryz.prog 22 #[.agg cs.toArray, .int .i64 n] w fun e w' => e = .returned (.string (ofL (decT h x n))) ∧ Below w.heap.size w w' := by
  obtain ⟨z, o0, o1, o2, o3, o4, o5, o6, o7, o8, o9, rfl⟩ := de_form hr
  have HR := hide hr
  clear hr
  have HB0 : Hid (Below w.heap.size w (w.alloc (.cells #[.string x.s, .slice o0 x.ss.length o1, .int .i64 z.k, .string z.s, .int .i64 z.n, .slice o2 z.l.length o3, .slice o4 z.ds.length o5, .slice o6 z.al.length o7, .slice o8 x.ds.length o9] 54))) := (Below.refl _ w).alloc (Nat.le_refl _) _
  have HX0 : Hid ((w.alloc (.cells #[.string x.s, .slice o0 x.ss.length o1, .int .i64 z.k, .string z.s, .int .i64 z.n, .slice o2 z.l.length o3, .slice o4 z.ds.length o5, .slice o6 z.al.length o7, .slice o8 x.ds.length o9] 54)).heap[w.heap.size]? = some (.cells #[.string x.s, .slice o0 x.ss.length o1, .int .i64 z.k, .string z.s, .int .i64 z.n, .slice o2 z.l.length o3, .slice o4 z.ds.length o5, .slice o6 z.al.length o7, .slice o8 x.ds.length o9] 54 (0, 0))) := heap_alloc_new w _
  have HB1 : Hid (Below w.heap.size w ((w.alloc (.cells #[.string x.s, .slice o0 x.ss.length o1, .int .i64 z.k, .string z.s, .int .i64 z.n, .slice o2 z.l.length o3, .slice o4 z.ds.length o5, .slice o6 z.al.length o7, .slice o8 x.ds.length o9] 54)).alloc (.cells #[.string x.s, .slice o0 x.ss.length o1, .int .i64 z.k, .string z.s, .int .i64 z.n, .slice o2 z.l.length o3, .slice o4 z.ds.length o5, .slice o6 z.al.length o7, .slice o8 x.ds.length o9] 54))) := HB0.out.alloc HB0.out.size _
  have HX1 : Hid (((w.alloc (.cells #[.string x.s, .slice o0 x.ss.length o1, .int .i64 z.k, .string z.s, .int .i64 z.n, .slice o2 z.l.length o3, .slice o4 z.ds.length o5, .slice o6 z.al.length o7, .slice o8 x.ds.length o9] 54)).alloc (.cells #[.string x.s, .slice o0 x.ss.length o1, .int .i64 z.k, .string z.s, .int .i64 z.n, .slice o2 z.l.length o3, .slice o4 z.ds.length o5, .slice o6 z.al.length o7, .slice o8 x.ds.length o9] 54)).heap[w.heap.size]? = some (.cells #[.string x.s, .slice o0 x.ss.length o1, .int .i64 z.k, .string z.s, .int .i64 z.n, .slice o2 z.l.length o3, .slice o4 z.ds.length o5, .slice o6 z.al.length o7, .slice o8 x.ds.length o9] 54 (0, 0))) := (Lib.alloc_old _ _ _ (heap_lt HX0.out)).trans HX0.out
  have hsz1 : (w.alloc (.cells #[.string x.s, .slice o0 x.ss.length o1, .int .i64 z.k, .string z.s, .int .i64 z.n, .slice o2 z.l.length o3, .slice o4 z.ds.length o5, .slice o6 z.al.length o7, .slice o8 x.ds.length o9] 54)).heap.size = w.heap.size + 1 := by simp
  have HROW : Hid (RowOf AllK ((w.alloc (.cells #[.string x.s, .slice o0 x.ss.length o1, .int .i64 z.k, .string z.s, .int .i64 z.n, .slice o2 z.l.length o3, .slice o4 z.ds.length o5, .slice o6 z.al.length o7, .slice o8 x.ds.length o9] 54)).alloc (.cells #[.string x.s, .slice o0 x.ss.length o1, .int .i64 z.k, .string z.s, .int .i64 z.n, .slice o2 z.l.length o3, .slice o4 z.ds.length o5, .slice o6 z.al.length o7, .slice o8 x.ds.length o9] 54)) (reads AllK ((w.alloc (.cells #[.string x.s, .slice o0 x.ss.length o1, .int .i64 z.k, .string z.s, .int .i64 z.n, .slice o2 z.l.length o3, .slice o4 z.ds.length o5, .slice o6 z.al.length o7, .slice o8 x.ds.length o9] 54)).alloc (.cells #[.string x.s, .slice o0 x.ss.length o1, .int .i64 z.k, .string z.s, .int .i64 z.n, .slice o2 z.l.length o3, .slice o4 z.ds.length o5, .slice o6 z.al.length o7, .slice o8 x.ds.length o9] 54)) h).de 9 (some ⟨w.heap.size + 1, 0, none⟩) [x]) := by
    have hg := heap_alloc_new (w.alloc (.cells #[.string x.s, .slice o0 x.ss.length o1, .int .i64 z.k, .string z.s, .int .i64 z.n, .slice o2 z.l.length o3, .slice o4 z.ds.length o5, .slice o6 z.al.length o7, .slice o8 x.ds.length o9] 54)) (.cells #[.string x.s, .slice o0 x.ss.length o1, .int .i64 z.k, .string z.s, .int .i64 z.n, .slice o2 z.l.length o3, .slice o4 z.ds.length o5, .slice o6 z.al.length o7, .slice o8 x.ds.length o9] 54)
    rw [hsz1] at hg
    exact (filled_dec ((reads_later HB1.out h).2.1 _ _ ((reads_frame (K' := AllK) (Stays.refl _ _) (fun _ _ => trivial) h).2.1 _ _ HR.out))).row hg trivial
  have CALL := hide ((co_all h).2.1 AllK [x] _ 1 _ 6 0 HROW.out (show 1 ≤ maxLen by decide) (by omega) (by omega) (by omega) (by omega))
  clear HROW
  go_enter Tryz.func22, Tryz.ntmps22
  go_wp2_with fail
  refine CALL.out.mono ?_
  rintro e w1 ⟨r, rfl, hr, hr0, -, hb⟩
  have HTK := hide hr
  have HB2 := hide (HB1.out.trans (hb.mono HB1.out.size))
  have HX2 := hide ((hb.block w.heap.size (heap_lt HX1.out)).trans HX1.out)
  clear hr hb CALL
  have HOKB : Hid (decOkB h x = decide (r ≤ 200)) := by
    show decOkB h x = _
    unfold decOkB
    rcases HTK.out with ⟨h1, h2, h3⟩ | ⟨h1, h2⟩
    · rw [h1, decide_eq_true h2, decide_eq_true (by omega)]
      rfl
    · rw [decide_eq_false (show ¬ r ≤ 200 by omega)]
      cases hd : decsB (okz h).de [x] 6 0
      · rfl
      · rw [Bool.true_and]
        exact decide_eq_false fun hc => h2 ⟨hd, hc⟩
  by_cases h200 : 200 < r
  · go_wp2
    go_ret
    exact ⟨ret_str (by unfold decT; rw [HOKB.out, decide_eq_false (by omega)]; rfl), HB2.out⟩
  have HOK : Hid (decOkB h x = true) := by
    show decOkB h x = true
    rw [HOKB.out]
    exact decide_eq_true (by omega)
  cases hi : inB n 0 60
  · have HI := hide hi
    clear hi
    go_wp2_with fail
    refine (in_any _ _ _ _).mono ?_
    rintro e w2 ⟨rfl, rfl⟩
    rw [HI.out]
    go_wp2
    go_ret
    exact ⟨ret_str (by unfold decT; rw [HI.out, Bool.and_false]; rfl), HB2.out⟩
  · have hn0 : 0 ≤ n ∧ n ≤ 60 := by unfold inB at hi; simp at hi; omega
    have HI := hide hi
    clear hi
    obtain ⟨m, rfl⟩ : ∃ m : Nat, n = m := ⟨n.toNat, by omega⟩
    have hok := decOkB_of HOK.out
    go_wp2_with fail
    refine (in_any _ _ _ _).mono ?_
    rintro e w2 ⟨rfl, rfl⟩
    rw [HI.out]
    have x0 := cell_of HX2.out 0
    have x1 := cell_of HX2.out 1
    have x2 := cell_of HX2.out 2
    have x3 := cell_of HX2.out 3
    have x4 := cell_of HX2.out 4
    have x5 := cell_of HX2.out 5
    have x6 := cell_of HX2.out 6
    have x7 := cell_of HX2.out 7
    have x8 := cell_of HX2.out 8
    simp only [List.getElem?_toArray, List.getElem?_cons_succ, List.getElem?_cons_zero] at x0 x1 x2 x3 x4 x5 x6 x7 x8
    go_wp2_with fail
    refine ((sp_all h).2.1 K x _ _ m 0 ((reads_later HB2.out h).2.1 _ _ HR.out) hok.1 (by omega) hok.2).mono ?_
    rintro e w3 ⟨rfl, hb⟩
    have HB3 := hide (HB2.out.trans (hb.mono HB2.out.size))
    clear hb
    go_wp2
    go_ret
    exact ⟨ret_str (by unfold decT; rw [HOK.out, HI.out]; rfl), HB3.out⟩
set_option maxHeartbeats 2000000 in
set_option maxRecDepth 100000 in
theorem implDecText_any {w : World} {h : Nat} {x : Tr} {cs : List Value} {n : Int} (hr : (reads AllK w h).de x cs) (htab : TabW w) :
    Calls Tryz.prog 24 #[.agg cs.toArray, .int .i64 n] w fun e w' => e = .returned (.string (ofL (decT h x n))) ∧ Below w.heap.size w w' := by
  obtain ⟨z, o0, o1, o2, o3, o4, o5, o6, o7, o8, o9, rfl⟩ := de_form hr
  have HR := hide hr
  have HT := hide htab
  clear htab
  clear hr
  have HB0 : Hid (Below w.heap.size w (w.alloc (.cells #[.string x.s, .slice o0 x.ss.length o1, .int .i64 z.k, .string z.s, .int .i64 z.n, .slice o2 z.l.length o3, .slice o4 z.ds.length o5, .slice o6 z.al.length o7, .slice o8 x.ds.length o9] 54))) := (Below.refl _ w).alloc (Nat.le_refl _) _
  have HX0 : Hid ((w.alloc (.cells #[.string x.s, .slice o0 x.ss.length o1, .int .i64 z.k, .string z.s, .int .i64 z.n, .slice o2 z.l.length o3, .slice o4 z.ds.length o5, .slice o6 z.al.length o7, .slice o8 x.ds.length o9] 54)).heap[w.heap.size]? = some (.cells #[.string x.s, .slice o0 x.ss.length o1, .int .i64 z.k, .string z.s, .int .i64 z.n, .slice o2 z.l.length o3, .slice o4 z.ds.length o5, .slice o6 z.al.length o7, .slice o8 x.ds.length o9] 54 (0, 0))) := heap_alloc_new w _
  have HB1 : Hid (Below w.heap.size w ((w.alloc (.cells #[.string x.s, .slice o0 x.ss.length o1, .int .i64 z.k, .string z.s, .int .i64 z.n, .slice o2 z.l.length o3, .slice o4 z.ds.length o5, .slice o6 z.al.length o7, .slice o8 x.ds.length o9] 54)).alloc (.cells #[.string x.s, .slice o0 x.ss.length o1, .int .i64 z.k, .string z.s, .int .i64 z.n, .slice o2 z.l.length o3, .slice o4 z.ds.length o5, .slice o6 z.al.length o7, .slice o8 x.ds.length o9] 54))) := HB0.out.alloc HB0.out.size _
  have HX1 : Hid (((w.alloc (.cells #[.string x.s, .slice o0 x.ss.length o1, .int .i64 z.k, .string z.s, .int .i64 z.n, .slice o2 z.l.length o3, .slice o4 z.ds.length o5, .slice o6 z.al.length o7, .slice o8 x.ds.length o9] 54)).alloc (.cells #[.string x.s, .slice o0 x.ss.length o1, .int .i64 z.k, .string z.s, .int .i64 z.n, .slice o2 z.l.length o3, .slice o4 z.ds.length o5, .slice o6 z.al.length o7, .slice o8 x.ds.length o9] 54)).heap[w.heap.size]? = some (.cells #[.string x.s, .slice o0 x.ss.length o1, .int .i64 z.k, .string z.s, .int .i64 z.n, .slice o2 z.l.length o3, .slice o4 z.ds.length o5, .slice o6 z.al.length o7, .slice o8 x.ds.length o9] 54 (0, 0))) := (Lib.alloc_old _ _ _ (heap_lt HX0.out)).trans HX0.out
  have hsz1 : (w.alloc (.cells #[.string x.s, .slice o0 x.ss.length o1, .int .i64 z.k, .string z.s, .int .i64 z.n, .slice o2 z.l.length o3, .slice o4 z.ds.length o5, .slice o6 z.al.length o7, .slice o8 x.ds.length o9] 54)).heap.size = w.heap.size + 1 := by simp
  have HROW : Hid (RowOf AllK ((w.alloc (.cells #[.string x.s, .slice o0 x.ss.length o1, .int .i64 z.k, .string z.s, .int .i64 z.n, .slice o2 z.l.length o3, .slice o4 z.ds.length o5, .slice o6 z.al.length o7, .slice o8 x.ds.length o9] 54)).alloc (.cells #[.string x.s, .slice o0 x.ss.length o1, .int .i64 z.k, .string z.s, .int .i64 z.n, .slice o2 z.l.length o3, .slice o4 z.ds.length o5, .slice o6 z.al.length o7, .slice o8 x.ds.length o9] 54)) (reads AllK ((w.alloc (.cells #[.string x.s, .slice o0 x.ss.length o1, .int .i64 z.k, .string z.s, .int .i64 z.n, .slice o2 z.l.length o3, .slice o4 z.ds.length o5, .slice o6 z.al.length o7, .slice o8 x.ds.length o9] 54)).alloc (.cells #[.string x.s, .slice o0 x.ss.length o1, .int .i64 z.k, .string z.s, .int .i64 z.n, .slice o2 z.l.length o3, .slice o4 z.ds.length o5, .slice o6 z.al.length o7, .slice o8 x.ds.length o9] 54)) h).de 9 (some ⟨w.heap.size + 1, 0, none⟩) [x]) := by
    have hg := heap_alloc_new (w.alloc (.cells #[.string x.s, .slice o0 x.ss.length o1, .int .i64 z.k, .string z.s, .int .i64 z.n, .slice o2 z.l.length o3, .slice o4 z.ds.length o5, .slice o6 z.al.length o7, .slice o8 x.ds.length o9] 54)) (.cells #[.string x.s, .slice o0 x.ss.length o1, .int .i64 z.k, .string z.s, .int .i64 z.n, .slice o2 z.l.length o3, .slice o4 z.ds.length o5, .slice o6 z.al.length o7, .slice o8 x.ds.length o9] 54)
    rw [hsz1] at hg
    exact (filled_dec ((reads_later HB1.out h).2.1 _ _ HR.out)).row hg trivial
  by_cases hn : n < 0 ∨ 60 < n
  · have hE : decT h x n = [] := by
      unfold decT
      have : inB n 0 60 = false := by unfold inB; simp; omega
      rw [this, Bool.and_false]
      rfl
    have HE := hide hE
    clear hE HROW
    rcases (show n < 0 ∨ (¬ n < 0 ∧ 60 < n) by omega) with h1 | ⟨h1, h2⟩
    all_goals
      go_enter Tryz.func24, Tryz.ntmps24
      go_wp2
      go_ret
      exact ⟨ret_str (by rw [HE.out]; rfl), HB0.out⟩
  have h1 : ¬ n < 0 := by omega
  have h2 : ¬ 60 < n := by omega
  have HI : Hid (inB n 0 60 = true) := inB_tt (by omega) (by omega)
  obtain ⟨m, rfl⟩ : ∃ m : Nat, n = m := ⟨n.toNat, by omega⟩
  have CALL := hide (implDecsOk_any (c := 1) HROW.out (show 1 ≤ maxLen by decide))
  clear HROW
  cases hb : (decsB (okz h).de [x] 6 0 && decide (sumZ (cnt h).de [x] ≤ 200))
  · have HBO := hide hb
    have HOK : Hid (decOkB h x = false) := hb
    clear hb
    go_enter Tryz.func24, Tryz.ntmps24
    go_wp2_with fail
    refine CALL.out.mono ?_
    rintro e w1 ⟨rfl, hb⟩
    rw [HBO.out]
    have HB2 := hide (HB1.out.trans (hb.mono HB1.out.size))
    clear hb
    go_wp2
    go_ret
    exact ⟨ret_str (by unfold decT; rw [HOK.out]; rfl), HB2.out⟩
  · have HBO := hide hb
    have HOK : Hid (decOkB h x = true) := hb
    clear hb
    have hok := decOkB_of HOK.out
    have HLEN := hide ((txt_len AllK w h).de x _ 0 m HR.out hok.1 (by omega))
    go_enter Tryz.func24, Tryz.ntmps24
    go_wp2_with fail
    refine CALL.out.mono ?_
    rintro e w1 ⟨rfl, hb⟩
    rw [HBO.out]
    have HB2 := hide (HB1.out.trans (hb.mono HB1.out.size))
    have HX2 := hide ((hb.block w.heap.size (heap_lt HX1.out)).trans HX1.out)
    clear hb
    have HRW := hide ((reads_lt w1 h).2.1 _ _ ((reads_later HB2.out h).2.1 _ _ HR.out))
    have HA1 : Hid (Below w1.heap.size w1 (w1.alloc (.cells #[.pointer none, .slice none 0 0] 100))) := (Below.refl _ w1).alloc (Nat.le_refl _) _
    have hT1 : Hid (Tb w1.heap.size w1) := (HT.out.later HB2.out).tb
    have PG := hide (fresh_page w1)
    go_wp2_with fail
    refine (margin_any w1.heap.size w1.heap.size [] m _ PG.out (by omega) (by simp only [List.length_nil]; omega)).mono ?_
    rintro e w2 ⟨rfl, hp2, hf2⟩
    have P2 := hide hp2
    have B2 := hide (HA1.out.trans hf2.below)
    have HX3 := hide (((HA1.out.trans hf2.below).block w.heap.size (heap_lt HX2.out)).trans HX2.out)
    clear hp2 hf2
    have x0 := cell_of HX3.out 0
    have x1 := cell_of HX3.out 1
    have x2 := cell_of HX3.out 2
    have x3 := cell_of HX3.out 3
    have x4 := cell_of HX3.out 4
    have x5 := cell_of HX3.out 5
    have x6 := cell_of HX3.out 6
    have x7 := cell_of HX3.out 7
    have x8 := cell_of HX3.out 8
    simp only [List.getElem?_toArray, List.getElem?_cons_succ, List.getElem?_cons_zero] at x0 x1 x2 x3 x4 x5 x6 x7 x8
    go_wp2_with fail
    refine ((px_all h).2.2.1 x _ w2 w1.heap.size w1.heap.size ([] ++ padL m) m 0 ((reads_later B2.out h).2.1 _ _ HRW.out) hok.1 P2.out (hT1.out.on B2.out) (by omega) hok.2 (by have := HLEN.out; simp only [List.length_nil, List.nil_append, padL_len]; omega)).mono ?_
    rintro e w3 ⟨rfl, hp3, hf3⟩
    have P3 := hide hp3
    have B3 := hide (B2.out.trans hf3.below)
    clear hp3 hf3 x0 x1 x2 x3 x4 x5 x6 x7 x8
    have HNE : Hid ([] ++ padL m ++ (txt h).de x m ≠ []) := by
      show [] ++ padL m ++ (txt h).de x m ≠ []
      cases h with
      | zero => exact HR.out.elim
      | succ h =>
        obtain ⟨-, -, -, e, -, -, -, -, -, hl, -⟩ := HR.out
        rw [txt_de hl]
        simp
    go_wp2_with fail
    refine (string_page w1.heap.size w1.heap.size _ w3 P3.out HNE.out).mono ?_
    rintro e w4 ⟨rfl, hf4⟩
    have B4 := hide (HB2.out.trans ((B3.out.trans hf4.below).mono HB2.out.size))
    clear hf4
    go_wp2
    go_ret
    exact ⟨ret_str (by unfold decT; rw [HOK.out, HI.out]; rfl), B4.out⟩
end Go.Proofs.YtdegcmagklbgoajGreatDoor
