/- The law's own measure, copy and comparison of Toks. -/
import Derived.Test.YtfcgfinohhhpiaiLA
import Derived.Laws.MakeOwn
namespace Go.Proofs.Ytfcgfinohhhpiai
open Go.RowKit

theorem szTok_any (t : TokZ) (z : Int) (hz0 : 0 ≤ z) (hz : z ≤ 1048576) (hs : t.s.size ≤ maxLen) (w : World) :
    Calls Try.prog 32 #[aggZ t, .int .i64 z] w fun e w' => ∃ r : Int, e = .returned (.int .i64 r) ∧ r ≤ 1048576 ∧ (0 ≤ r → t.s.size ≤ 1048576) ∧ Below w.heap.size w w' := by
  obtain ⟨tk, ts, tl, tc⟩ := t
  unfold aggZ
  have hs2 : ts.size ≤ 9223372036854775807 := hs
  have hb : Below w.heap.size w (w.alloc (.cells #[.int .i64 tk, .string ts, .int .i64 tl, .int .i64 tc] 64)) := (Below.refl _ w).alloc (Nat.le_refl _) _
  have HB := hide hb
  clear hb
  by_cases h : z - ts.size < 0
  · go_enter Try.func32, Try.ntmps32
    go_wp2
    go_ret
    exact ⟨-1, rfl, by omega, fun h => by omega, HB.out⟩
  · go_enter Try.func32, Try.ntmps32
    go_wp2
    go_ret
    exact ⟨z - ts.size, rfl, by omega, fun h => by show ts.size ≤ _; omega, HB.out⟩

theorem tok_eta (t : TokZ) : Value.agg #[.int .i64 t.k, .string t.s, .int .i64 t.l, .int .i64 t.c] = aggZ t := rfl

set_option maxHeartbeats 2000000 in
set_option maxRecDepth 100000 in
theorem szTokS_any (ts : List TokZ) (o : Option Addr) (b off cap : Nat) (w : World) (hl : ts.length ≤ maxLen) (hm : ToksAt w o b off ts) (hs : ∀ t ∈ ts, t.s.size ≤ maxLen) :
    Calls Try.prog 8 #[.slice o ts.length cap, .int .i64 1048576] w fun e w' => ∃ r : Int, e = .returned (.int .i64 r) ∧ (0 ≤ r → ts.length ≤ 1048576 ∧ ∀ t ∈ ts, t.s.size ≤ 1048576) ∧ Below w.heap.size w w' := by
  have HM := hide hm
  have HS := hide hs
  have hl2 : ts.length ≤ 9223372036854775807 := hl
  clear hm hs hl
  by_cases hbig : (1048576 : Int) - ts.length < 0
  · go_enter Try.func8, Try.ntmps8
    go_wp2
    go_ret
    exact ⟨-1, rfl, fun h => by omega, Below.refl _ _⟩
  go_enter Try.func8, Try.ntmps8
  go_wp2
  go_loopw [1, 5] (fun t1 t5 wr => ∃ (i : Nat) (z : Int), i ≤ ts.length ∧ t5 = .int .i64 i ∧ t1 = .int .i64 z ∧ 0 ≤ z ∧ z ≤ 1048576 ∧ (∀ t ∈ ts.take i, t.s.size ≤ 1048576) ∧ Below w.heap.size w wr) (fun _ t5 _ => ts.length - (intOf t5).toNat)
  case atStart => exact ⟨0, 1048576 - ts.length, Nat.zero_le _, rfl, rfl, by omega, by omega, by simp, Below.refl _ _⟩
  case round =>
    obtain ⟨i, z, hi, rfl, rfl, hz0, hz1, hall, hbw⟩ := hrel
    have HALL := hide hall
    have HBW := hide hbw
    clear hall hbw
    by_cases hlt : i < ts.length
    · have hne : ts ≠ [] := by intro e; rw [e] at hlt; simp at hlt
      obtain ⟨t, ht⟩ : ∃ t, ts[i]? = some t := ⟨ts[i], List.getElem?_eq_getElem hlt⟩
      obtain ⟨eo, hbl, hcs⟩ := (toksAt_later HM.out HBW.out) hne
      subst eo
      obtain ⟨c0, c1, c2, c3⟩ := hcs i t ht
      have hmem : t ∈ ts := List.mem_of_getElem? ht
      have HT := hide ht
      have HMEM := hide hmem
      clear hcs ht hne hmem
      have hlt2 : (i : Int) < ts.length := by omega
      go_wp2_with fail
      rw [tok_eta]
      refine (szTok_any t z hz0 hz1 (HS.out t HMEM.out) _).mono ?_
      rintro e w1 ⟨r, rfl, hr1, hr2, hb1⟩
      have HR2 := hide hr2
      have HB1 := hide hb1
      clear hr2 hb1
      by_cases hr : r < 0
      · go_wp2
        go_ret
        exact ⟨-1, rfl, fun h => by omega, HBW.out.trans (HB1.out.mono HBW.out.size)⟩
      · go_wp2
        refine ⟨⟨i + 1, r, by omega, by go_num, rfl, by omega, by omega, ?_, HBW.out.trans (HB1.out.mono HBW.out.size)⟩, by simp [intOf]; omega⟩
        intro x hx
        rw [List.take_add_one, HT.out, List.mem_append] at hx
        rcases hx with hx | hx
        · exact HALL.out x hx
        · have : x = t := by simpa using hx
          subst this
          exact HR2.out (by omega)
    · go_wp2
      go_ret
      refine ⟨z, rfl, fun _ => ⟨by omega, ?_⟩, HBW.out⟩
      have h := HALL.out
      rw [List.take_of_length_le (by omega)] at h
      exact h

theorem toTok_any (t : TokZ) (w : World) :
    Calls Try.prog 34 #[aggZ t] w fun e w' => e = .returned (aggZ t) ∧ Below w.heap.size w w' := by
  obtain ⟨tk, ts, tl, tc⟩ := t
  unfold aggZ
  go_enter Try.func34, Try.ntmps34
  go_wp2
  refine bodyPost_ret (v := .agg #[.int .i64 tk, .string ts, .int .i64 tl, .int .i64 tc]) ?_ rfl ?_
  · refine results_cell_row rfl _ _ _ 70 _ (0, 0) _ rfl ?_ Try.underlying70 rfl (by kernel_rfl)
    rw [Below.heap_alloc _ _ _ (by simp)]
    exact heap_alloc2_new w _ _
  · refine ⟨rfl, ?_⟩
    exact (((Below.refl _ w).alloc (Nat.le_refl _) _).alloc (by simp) _).alloc (by simp; omega) _

theorem take_set4 (cur : Array Value) (i : Nat) (h : i * 4 + 4 ≤ cur.size) (a b c d : Value) : ((((cur.set! (i * 4) a).set! (i * 4 + 1) b).set! (i * 4 + 2) c).set! (i * 4 + 3) d).toList.take ((i + 1) * 4) = cur.toList.take (i * 4) ++ [a, b, c, d] := by
  have hl : cur.toList.length = cur.size := Array.length_toList
  apply List.ext_getElem?
  intro n
  rw [List.getElem?_take, List.getElem?_append, List.length_take, Nat.min_eq_left (by omega), List.getElem?_take]
  simp only [Array.set!_eq_setIfInBounds, Array.toList_setIfInBounds, List.getElem?_set, List.length_set]
  by_cases h0 : n < i * 4
  · rw [if_pos (by omega), if_neg (by omega), if_neg (by omega), if_neg (by omega), if_neg (by omega), if_pos h0, if_pos h0]
  · rw [if_neg h0]
    by_cases h4 : n < (i + 1) * 4
    · rw [if_pos h4]
      obtain ⟨j, hj, rfl⟩ : ∃ j, j < 4 ∧ n = i * 4 + j := ⟨n - i * 4, by omega, by omega⟩
      rw [Nat.add_sub_cancel_left]
      match j, hj with
      | 0, _ => rw [if_neg (by omega), if_neg (by omega), if_neg (by omega), if_pos (by omega), if_pos (by omega)]; rfl
      | 1, _ => rw [if_neg (by omega), if_neg (by omega), if_pos rfl, if_pos (by omega)]; rfl
      | 2, _ => rw [if_neg (by omega), if_pos rfl, if_pos (by omega)]; rfl
      | 3, _ => rw [if_pos rfl, if_pos (by omega)]; rfl
    · rw [if_neg h4]
      exact (List.getElem?_eq_none (by show 4 ≤ _; omega)).symm

theorem tok_info : (Try.prog.info? 70).map (fun i => (i.zero, i.size, i.bytes)) = some (some (.agg #[.int .i64 0, .string ⟨#[]⟩, .int .i64 0, .int .i64 0]), 4, 40) := by kernel_rfl
theorem make_toks (n : Nat) (hn : n ≤ 1048576) (w : World) : (Instr.makeSlice 24 (.int .i64 (n : Int)) (.int .i64 (n : Int))).run Try.prog w = .ok (.slice (some ⟨w.heap.size, 0, none⟩) n n) (w.alloc (.cells (madeCells #[.int .i64 0, .string ⟨#[]⟩, .int .i64 0, .int .i64 0] (n * 4)) 70)) := by
  obtain ⟨i0, hi, hz0, hz1, hz2⟩ := info_parts tok_info
  have hr := run_make (P := Try.prog) w 24 70 i0 _ Try.underlying24 hi hz0 .i64 .i64 n n (by omega) (Int.le_refl _) (by rw [hz2]; omega) (by omega)
  rw [hz1, Int.toNat_natCast] at hr
  exact hr

set_option maxHeartbeats 2000000 in
set_option maxRecDepth 100000 in
theorem toTokS_any (ts : List TokZ) (o : Option Addr) (b off cap : Nat) (w : World) (hl : ts.length ≤ 1048576) (hm : ToksAt w o b off ts) :
    Calls Try.prog 10 #[.slice o ts.length cap] w fun e w' => ∃ v, e = .returned v ∧ w'.ownsRow w.heap.size 70 4 v ts.length (rowZ ts) ∧ Below w.heap.size w w' := by
  have HM := hide hm
  clear hm
  have hmk := make_toks ts.length hl
  go_enter Try.func10, Try.ntmps10
  go_wp2
  clear hmk
  go_loopw [4] (fun t4 wr => ∃ (i : Nat) (cur : Array Value), i ≤ ts.length ∧ t4 = .int .i64 i ∧ wr.heap[w.heap.size]? = some (.cells cur 70 (0, 0)) ∧ cur.size = ts.length * 4 ∧ cur.toList.take (i * 4) = rowZ (ts.take i) ∧ Below w.heap.size w wr) (fun t4 _ => ts.length - (intOf t4).toNat)
  case atStart => exact ⟨0, _, Nat.zero_le _, rfl, heap_alloc_new w _, by rw [size_madeCells], by simp [rowZ], (Below.refl _ w).alloc (Nat.le_refl _) _⟩
  case round =>
    obtain ⟨i, cur, hi, rfl, hcur, hsz, htk, hbw⟩ := hrel
    have HC := hide hcur
    have HT := hide htk
    have HBW := hide hbw
    have HSZ := hide hsz
    clear hcur htk hbw hsz
    by_cases hlt : i < ts.length
    · have hne : ts ≠ [] := by intro e; rw [e] at hlt; simp at hlt
      obtain ⟨t, ht⟩ : ∃ t, ts[i]? = some t := ⟨ts[i], List.getElem?_eq_getElem hlt⟩
      obtain ⟨eo, hbl, hcs⟩ := (toksAt_later HM.out HBW.out) hne
      subst eo
      obtain ⟨c0, c1, c2, c3⟩ := hcs i t ht
      have HTT := hide ht
      clear hcs ht hne
      have hlt2 : (i : Int) < ts.length := by omega
      have hw : w.heap.size < wr.heap.size := heap_lt HC.out
      go_wp2_with fail
      rw [tok_eta]
      refine (toTok_any t _).mono ?_
      rintro e w1 ⟨rfl, hb1⟩
      have HB1 := hide hb1
      have HC1 := hide ((hb1.block w.heap.size hw).trans HC.out)
      clear hb1
      have s0 := cell_of HC1.out (i * 4)
      have s1 := cell_of HC1.out (i * 4 + 1)
      have s2 := cell_of HC1.out (i * 4 + 2)
      have s3 := cell_of HC1.out (i * 4 + 3)
      rw [Array.getElem?_eq_getElem (by rw [HSZ.out]; omega)] at s0 s1 s2 s3
      have f0 := frozen_of HC1.out (i * 4)
      have f1 := frozen_of HC1.out (i * 4 + 1)
      have f2 := frozen_of HC1.out (i * 4 + 2)
      have f3 := frozen_of HC1.out (i * 4 + 3)
      unfold aggZ
      go_wp2
      refine ⟨⟨i + 1, _, by omega, by go_num, heap_set_same _ (heap_set_same _ (heap_set_same _ (heap_set_same _ HC1.out))), by simpa using HSZ.out, ?_, ?_⟩, by simp [intOf]; omega⟩
      · rw [take_set4 cur i (by rw [HSZ.out]; omega), HT.out, List.take_add_one, HTT.out]
        exact (rowZ_snoc _ t).symm
      · have h1 := HBW.out.trans (HB1.out.mono HBW.out.size)
        exact (((h1.setCell (Nat.le_refl _) _).setCell (Nat.le_refl _) _).setCell (Nat.le_refl _) _).setCell (Nat.le_refl _) _
    · go_wp2
      go_ret
      have hie : i = ts.length := by omega
      subst hie
      refine ⟨_, rfl, ⟨rowZ_length ts, Or.inr ⟨w.heap.size, ts.length, cur, rfl, Nat.le_refl _, HC.out, Nat.le_refl _, by unfold maxLen; omega, HSZ.out, ?_⟩⟩, HBW.out⟩
      rw [HT.out, List.take_length]

set_option maxHeartbeats 1000000 in
theorem eqTok_same (k l c : Int) (t : ByteArray) (w : World) :
    Calls Try.prog 36 #[.agg #[.int .i64 k, .string t, .int .i64 l, .int .i64 c], .agg #[.int .i64 k, .string t, .int .i64 l, .int .i64 c]] w fun e w' => e = .returned (.bool true) ∧ Below w.heap.size w w' := by
  go_enter Try.func36, Try.ntmps36
  go_wp2
  go_ret
  exact ⟨rfl, ((Below.refl _ w).alloc (Nat.le_refl _) _).alloc (by simp) _⟩

set_option maxHeartbeats 2000000 in
set_option maxRecDepth 100000 in
theorem eqTokS_same (ts : List TokZ) (hts : ts.length ≤ 1048576) (oa ob : Option Addr) (ga gb ca cb : Nat) (w : World) (ha : ToksAt w oa ga 0 ts) (hb : ToksAt w ob gb 0 ts) :
    Calls Try.prog 12 #[.slice oa ts.length ca, .slice ob ts.length cb] w fun e w' => e = .returned (.bool true) ∧ Below w.heap.size w w' := by
  have HA := hide ha
  have HB := hide hb
  clear ha hb
  go_enter Try.func12, Try.ntmps12
  go_wp2
  go_loopw [5] (fun t wr => ∃ k : Nat, k ≤ ts.length ∧ t = .int .i64 k ∧ Below w.heap.size w wr) (fun t _ => ts.length - (intOf t).toNat)
  case atStart => exact ⟨0, Nat.zero_le _, rfl, Below.refl _ _⟩
  case round =>
    obtain ⟨i, hi, rfl, hbw⟩ := hrel
    have HBW := hide hbw
    clear hbw
    by_cases hlt : i < ts.length
    · have hne : ts ≠ [] := by intro e; rw [e] at hlt; simp at hlt
      obtain ⟨t, ht⟩ : ∃ t, ts[i]? = some t := ⟨ts[i], List.getElem?_eq_getElem hlt⟩
      obtain ⟨ea, -, hA⟩ := (toksAt_later HA.out HBW.out) hne
      obtain ⟨eb, -, hB⟩ := (toksAt_later HB.out HBW.out) hne
      subst ea eb
      have hA2 := hA i t ht
      have hB2 := hB i t ht
      rw [Nat.zero_add] at hA2 hB2
      obtain ⟨a0, a1, a2, a3⟩ := hA2
      obtain ⟨b0, b1, b2, b3⟩ := hB2
      clear ht hA hB hne
      generalize t.k = tk at *
      generalize t.s = tS at *
      generalize t.l = tl at *
      generalize t.c = tc at *
      have hlt2 : (i : Int) < ts.length := by omega
      go_wp2
      go_region_with ((go_at_call 36; refine (eqTok_same _ _ _ _ _).mono ?_; rintro e w1 ⟨rfl, hb1⟩))
      all_goals
        have HB1 := hide hb1
        clear hb1
        go_wp2
        go_roundw
        case rel => exact ⟨i + 1, by omega, by go_num, HBW.out.trans ((Below.refl _ _).drew.trans (HB1.out.mono HBW.out.size))⟩
        case measure => simp [intOf]; omega
    · go_wp2
      go_ret
      exact ⟨rfl, HBW.out⟩
end Go.Proofs.Ytfcgfinohhhpiai
