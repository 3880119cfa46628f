/- Blocks, of the program and of the model. -/
import Derived.Test.YtfcgfinohhhpiaiLB
namespace Go.Proofs.Ytfcgfinohhhpiai
open Go.RowKit

theorem empty_list : (ByteArray.mk #[]).toList = [] := by kernel_rfl
theorem sgn_mark (t : TokZ) (s : ByteArray) (hs : isW s.toList = false) (h0 : s.toList ≠ []) : ((sgn t).toList == s.toList) = isB t 5 s := by
  unfold sgn isB
  by_cases he : t.s.toList = s.toList
  · rw [he, hs]
    by_cases hk : t.k = 5
    · rw [if_pos (by rw [hk]; rfl), he, hk]
      simp
    · rw [if_neg (by simp [hk]), empty_list]
      have : ([] == s.toList) = false := by simpa using Ne.symm h0
      rw [this]
      simp [hk]
  · have e1 : (t.s.toList == s.toList) = false := by simpa using he
    rw [e1, Bool.and_false]
    split
    · exact e1
    · rw [empty_list]
      simpa using Ne.symm h0
theorem sgn_word (t : TokZ) (s : ByteArray) (hs : isW s.toList = true) (h0 : s.toList ≠ []) : ((sgn t).toList == s.toList) = isB t 4 s := by
  unfold sgn isB
  by_cases he : t.s.toList = s.toList
  · rw [he, hs]
    by_cases hk : t.k = 4
    · rw [if_pos (by rw [hk]; rfl), he, hk]
      simp
    · rw [if_neg (by simp [hk]), empty_list]
      have : ([] == s.toList) = false := by simpa using Ne.symm h0
      rw [this]
      simp [hk]
  · have e1 : (t.s.toList == s.toList) = false := by simpa using he
    rw [e1, Bool.and_false]
    split
    · exact e1
    · rw [empty_list]
      simpa using Ne.symm h0
theorem open_list : (ByteArray.mk #[123]).toList = [123] := by kernel_rfl
theorem sgn_open (t : TokZ) : ((sgn t).toList == [123]) = isB t 5 ⟨#[123]⟩ := by
  have h := sgn_mark t ⟨#[123]⟩ (by rw [open_list]; decide) (by rw [open_list]; decide)
  rw [open_list] at h
  exact h

def blocksZ (ts : List TokZ) : Nat := (ts.filter fun t => isB t 5 ⟨#[123]⟩ && t.l == 0).length
theorem blocksZ_le (ts : List TokZ) : blocksZ ts ≤ ts.length := List.length_filter_le _ _
theorem blocksZ_snoc (ts : List TokZ) (t : TokZ) : blocksZ (ts ++ [t]) = blocksZ ts + if (isB t 5 ⟨#[123]⟩ && t.l == 0) = true then 1 else 0 := by
  unfold blocksZ
  rw [List.filter_append, List.length_append]
  congr 1
  by_cases h : (isB t 5 ⟨#[123]⟩ && t.l == 0) = true
  · simp [h]
  · simp [h]
theorem tok_eta2 (t : TokZ) : Value.agg #[.int .i64 t.k, .string t.s, .int .i64 t.l, .int .i64 t.c] = aggZ t := rfl

set_option maxHeartbeats 2000000 in
set_option maxRecDepth 100000 in
theorem specBlocks_any (ts : List TokZ) (hts : ts.length ≤ 1048576) (o : Option Addr) (b cap : Nat) (w : World) (hm : ToksAt w o b 0 ts) :
    Calls Try.prog 15 #[.slice o ts.length cap] w fun e w' => e = .returned (.int .i64 (blocksZ ts : Nat)) ∧ Below w.heap.size w w' := by
  have HM := hide hm
  clear hm
  go_enter Try.func15, Try.ntmps15
  go_wp2
  go_loopw [3, 4] (fun t3 t4 wr => ∃ i n : Nat, i ≤ ts.length ∧ t4 = .int .i64 i ∧ t3 = .int .i64 n ∧ n = blocksZ (ts.take i) ∧ n ≤ i ∧ Below w.heap.size w wr) (fun _ t4 _ => ts.length - (intOf t4).toNat)
  case atStart => exact ⟨0, 0, Nat.zero_le _, rfl, rfl, rfl, Nat.le_refl _, Below.refl _ _⟩
  case round =>
    obtain ⟨i, n, hi, rfl, rfl, hn, hni, hbw⟩ := hrel
    have HN := hide hn
    have HBW := hide hbw
    clear hn hbw
    by_cases hlt : i < ts.length
    · have hne : ts ≠ [] := by intro e; rw [e] at hlt; simp at hlt
      obtain ⟨t, ht⟩ : ∃ t, ts[i]? = some t := ⟨ts[i], List.getElem?_eq_getElem hlt⟩
      obtain ⟨eo, hbl, hcs⟩ := (toksAt_later HM.out HBW.out) hne
      subst eo
      have hA := hcs i t ht
      rw [Nat.zero_add] at hA
      obtain ⟨c0, c1, c2, c3⟩ := hA
      have HSN := hide (blocksZ_snoc (ts.take i) t)
      have hsn : ts.take (i + 1) = ts.take i ++ [t] := by rw [List.take_add_one, ht]; rfl
      rw [← hsn, ← HN.out] at HSN
      clear hcs ht hne hsn
      have hlt2 : (i : Int) < ts.length := by omega
      cases hI : isB t 5 ⟨#[123]⟩
      · rw [hI] at HSN
        have HI := hide hI
        clear hI
        go_wp2_with fail
        rw [tok_eta2]
        refine (is_any t 5 ⟨#[123]⟩ _).mono ?_
        rintro e w1 ⟨rfl, hb1⟩
        rw [HI.out]
        have HB1 := hide hb1
        clear hb1
        go_wp2
        refine ⟨⟨i + 1, n, by omega, by go_num, rfl, HSN.out.symm, by omega, HBW.out.trans (HB1.out.mono HBW.out.size)⟩, by simp [intOf]; omega⟩
      · rw [hI] at HSN
        have HI := hide hI
        clear hI
        have hc2 : ∀ w1, Below wr.heap.size wr w1 → w1.cell? ⟨b, i * 4 + 2, none⟩ = some (.int .i64 t.l) := fun w1 h => (h.cell (p := ⟨b, i * 4 + 2, none⟩) hbl).trans c2
        have HC2 := hide hc2
        clear hc2
        by_cases hz : t.l = 0
        · rw [hz] at HSN
          have HZ : Hid ((t.l == 0) = true) := by simp [hz, Hid]
          clear hz
          go_wp2_with fail
          rw [tok_eta2]
          refine (is_any t 5 ⟨#[123]⟩ _).mono ?_
          rintro e w1 ⟨rfl, hb1⟩
          rw [HI.out]
          have c2b := HC2.out w1 hb1
          have hz2 := HZ.out
          have HB1 := hide hb1
          clear hb1
          go_wp2
          refine ⟨⟨i + 1, n + 1, by omega, by go_num, by go_num, HSN.out.symm, by omega, HBW.out.trans (HB1.out.mono HBW.out.size)⟩, by simp [intOf]; omega⟩
        · have hz2 : (t.l == 0) = false := by simp [hz]
          rw [hz2] at HSN
          have HZ := hide hz2
          clear hz hz2
          go_wp2_with fail
          rw [tok_eta2]
          refine (is_any t 5 ⟨#[123]⟩ _).mono ?_
          rintro e w1 ⟨rfl, hb1⟩
          rw [HI.out]
          have c2b := HC2.out w1 hb1
          have hz2 := HZ.out
          have HB1 := hide hb1
          clear hb1
          go_wp2
          refine ⟨⟨i + 1, n, by omega, by go_num, rfl, HSN.out.symm, by omega, HBW.out.trans (HB1.out.mono HBW.out.size)⟩, by simp [intOf]; omega⟩
    · go_wp2
      go_ret
      have hie : i = ts.length := by omega
      subst hie
      have h := HN.out
      rw [List.take_length] at h
      refine ⟨?_, HBW.out⟩
      rw [← h]
      rfl

set_option maxHeartbeats 2000000 in
set_option maxRecDepth 100000 in
theorem implBlocks_any (ts : List TokZ) (hts : ts.length ≤ 1048576) (o : Option Addr) (b cap : Nat) (w : World) (hm : ToksAt w o b 0 ts) :
    Calls Try.prog 16 #[.slice o ts.length cap] w fun e w' => e = .returned (.int .i64 (blocksZ ts : Nat)) ∧ Below w.heap.size w w' := by
  have HM := hide hm
  clear hm
  go_enter Try.func16, Try.ntmps16
  go_wp2
  go_loopw [3, 8] (fun t3 t4 wr => ∃ i n : Nat, i ≤ ts.length ∧ t4 = .int .i64 i ∧ t3 = .int .i64 n ∧ n = blocksZ (ts.take i) ∧ n ≤ i ∧ Below w.heap.size w wr) (fun _ t4 _ => ts.length - (intOf t4).toNat)
  case atStart => exact ⟨0, 0, Nat.zero_le _, rfl, rfl, rfl, Nat.le_refl _, Below.refl _ _⟩
  case round =>
    obtain ⟨i, n, hi, rfl, rfl, hn, hni, hbw⟩ := hrel
    have HN := hide hn
    have HBW := hide hbw
    clear hn hbw
    by_cases hlt : i < ts.length
    · have hne : ts ≠ [] := by intro e; rw [e] at hlt; simp at hlt
      obtain ⟨t, ht⟩ : ∃ t, ts[i]? = some t := ⟨ts[i], List.getElem?_eq_getElem hlt⟩
      obtain ⟨eo, hbl, hcs⟩ := (toksAt_later HM.out HBW.out) hne
      subst eo
      have hA := hcs i t ht
      rw [Nat.zero_add] at hA
      obtain ⟨c0, c1, c2, c3⟩ := hA
      have HSN := hide (blocksZ_snoc (ts.take i) t)
      have hsn : ts.take (i + 1) = ts.take i ++ [t] := by rw [List.take_add_one, ht]; rfl
      rw [← hsn, ← HN.out] at HSN
      clear hcs ht hne hsn
      have hlt2 : (i : Int) < ts.length := by omega
      have HSG := hide (sgn_open t)
      go_wp2_with fail
      rw [tok_eta2]
      refine (signOf_any t _).mono ?_
      rintro e w1 ⟨rfl, hb1⟩
      have HB1 := hide hb1
      have c2b : w1.cell? ⟨wr.heap.size, 2, none⟩ = some (.int .i64 t.l) := (hb1.cell (p := ⟨wr.heap.size, 2, none⟩) (by simp)).trans (by simp)
      clear hb1
      have HB2 : Hid (Below w.heap.size w w1) := HBW.out.trans (((Below.refl _ wr).alloc HBW.out.size _).trans (HB1.out.mono (by simp; have := HBW.out.size; omega)))
      cases hI : isB t 5 ⟨#[123]⟩
      · rw [hI] at HSN HSG
        have hsg := HSG.out
        clear hI
        go_wp2
        refine ⟨⟨i + 1, n, by omega, by go_num, rfl, HSN.out.symm, by omega, HB2.out⟩, by simp [intOf]; omega⟩
      · rw [hI] at HSN HSG
        have hsg := HSG.out
        clear hI
        cases hz : (t.l == 0)
        · rw [hz] at HSN
          go_wp2
          refine ⟨⟨i + 1, n, by omega, by go_num, rfl, HSN.out.symm, by omega, HB2.out⟩, by simp [intOf]; omega⟩
        · rw [hz] at HSN
          go_wp2
          refine ⟨⟨i + 1, n + 1, by omega, by go_num, by go_num, HSN.out.symm, by omega, HB2.out⟩, by simp [intOf]; omega⟩
    · go_wp2
      go_ret
      have hie : i = ts.length := by omega
      subst hie
      have h := HN.out
      rw [List.take_length] at h
      refine ⟨?_, HBW.out⟩
      rw [← h]
      rfl
end Go.Proofs.Ytfcgfinohhhpiai
