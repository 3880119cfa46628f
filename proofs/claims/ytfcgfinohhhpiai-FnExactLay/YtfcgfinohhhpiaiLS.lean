/- The program's line and block beginnings. -/
import Derived.Test.YtfcgfinohhhpiaiLR
namespace Go.Proofs.Ytfcgfinohhhpiai.I
open Go.RowKit Go.Proofs.Ytfcgfinohhhpiai

set_option maxHeartbeats 2000000 in
set_option maxRecDepth 100000 in
theorem greatest_any {w : World} {K : Nat → Prop} {g : Nat} {out : List TokZ} {st : List Int} {wait : Bool} {line : Int} (h : ImplAt w K g out st wait line) (hn : out.length + st.length ≤ 10000000) :
    Calls Try.prog 94 #[.pointer (some ⟨g, 0, none⟩)] w fun e w' => e = .returned (.int .i64 (greatZ st)) ∧ w' = w := by
  obtain ⟨vo, vs, hg, hm⟩ := h
  have c1 := cell_of hg 0
  simp only [List.getElem?_toArray, List.getElem?_cons_zero] at c1
  obtain ⟨o, b, cap, rfl, ho, hcs⟩ := stack_cells hm
  have HO := hide ho
  have HCS := hide hcs
  clear hm hg ho hcs
  go_enter Try.func94, Try.ntmps94
  go_wp2
  go_loopw [3, 11] (fun t3 t4 wr => ∃ (i : Nat) (m : Int), i ≤ st.length ∧ t4 = .int .i64 i ∧ t3 = .int .i64 m ∧ m = greatL 0 (st.reverse.take i) ∧ wr = w) (fun _ t4 _ => st.length - (intOf t4).toNat)
  case atStart => exact ⟨0, 0, Nat.zero_le _, rfl, rfl, rfl, rfl⟩
  case round =>
    obtain ⟨i, m, hi, rfl, rfl, hmm, rfl⟩ := hrel
    have HMM := hide hmm
    clear hmm
    by_cases hlt : i < st.length
    · have hne : st ≠ [] := by intro e; rw [e] at hlt; simp at hlt
      obtain ⟨ho, hb⟩ := HO.out hne
      subst ho
      obtain ⟨n, hnn⟩ : ∃ n, st.reverse[i]? = some n := ⟨st.reverse[i]'(by rw [List.length_reverse]; exact hlt), List.getElem?_eq_getElem _⟩
      have ci := HCS.out i n hnn
      have hsn : st.reverse.take (i + 1) = st.reverse.take i ++ [n] := by rw [List.take_add_one, hnn]; rfl
      have HSN : Hid (greatL 0 (st.reverse.take (i + 1)) = if m < n then n else m) := by rw [hsn, greatL_snoc, ← HMM.out]; rfl
      clear hne hnn hsn
      have hlt2 : (i : Int) < st.length := by omega
      by_cases hgt : m < n
      · rw [if_pos hgt] at HSN
        have hmx : max m n = n := by omega
        go_wp2
        refine ⟨⟨i + 1, n, by omega, by go_num, by first | rfl | (rw [hmx]) | (simp; omega), HSN.out.symm, trivial⟩, by simp [intOf]; omega⟩
      · rw [if_neg hgt] at HSN
        have hmx : max m n = m := by omega
        go_wp2
        refine ⟨⟨i + 1, m, by omega, by go_num, by first | rfl | (rw [hmx]) | (simp; omega), HSN.out.symm, trivial⟩, by simp [intOf]; omega⟩
    · go_wp2
      go_ret
      have hie : i = st.length := by omega
      subst hie
      have h := HMM.out
      rw [List.take_of_length_le (by rw [List.length_reverse]; exact Nat.le_refl _)] at h
      refine ⟨?_, rfl⟩
      rw [greatZ, ← h]
      rfl
theorem greatest_quiet {w : World} {K : Nat → Prop} {g : Nat} {out : List TokZ} {st : List Int} {wait : Bool} {line : Int} (h : ImplAt w K g out st wait line) (hn : out.length + st.length ≤ 10000000) (n : Nat) (x : Int) (hx : greatZ st = x) :
    Calls Try.prog 94 #[.pointer (some ⟨g, 0, none⟩)] (w.drewN n) fun e w' => e = .returned (.int .i64 x) ∧ ∃ m, w' = w.drewN m := by
  subst hx
  refine (greatest_any (ImplAt.drewN h n) hn).mono ?_
  rintro e w' ⟨rfl, rfl⟩
  exact ⟨rfl, n, rfl⟩

set_option maxHeartbeats 2000000 in
set_option maxRecDepth 100000 in
theorem turnLine_any {w : World} {K : Nat → Prop} {g : Nat} {out : List TokZ} {st : List Int} {wait : Bool} {line : Int} (t : TokZ) (h : ImplAt w K g out st wait line) (hn : out.length + st.length ≤ 8000000) :
    Calls Try.prog 64 #[.pointer (some ⟨g, 0, none⟩), .int .i64 t.c] w fun e w' => e = .returned (.tuple #[]) ∧ ImplAt w' K g (lineZ st out t).2 (lineZ st out t).1 wait line ∧ Keeps K w w' := by
  have HS0 := hide h
  clear h
  have hsum := closeA_sum t.c st out
  go_enter Try.func64, Try.ntmps64
  go_wp2_with fail
  refine (closeAbove_any t.c HS0.out (by omega)).mono ?_
  rintro e w1 ⟨rfl, hs1, hk1⟩
  obtain ⟨st1, out1, hP⟩ : ∃ s o, closeA t.c st out = (s, o) := ⟨_, _, rfl⟩
  rw [hP] at hs1 hsum
  simp only at hs1 hsum
  have HK1 := hide hk1
  have HS1 := hide hs1
  cases st1 with
  | nil =>
    have HL : Hid (lineZ st out t = ([], out1)) := by
      show lineZ st out t = ([], out1)
      unfold lineZ
      rw [hP]
      rfl
    obtain ⟨o0, n0, o1, n1, c0, -, -, -, -, -, -⟩ := ImplAt.facts hs1
    simp only [List.length_nil] at c0
    clear hs1 hk1 hP
    go_wp2
    go_end0
    refine ⟨rfl, ?_, HK1.out⟩
    rw [HL.out]
    exact HS1.out
  | cons x r =>
    obtain ⟨b, cap, hc1, hc3, c0, -, ct, -, -⟩ := ImplAt.top hs1
    rw [List.length_cons] at hsum
    have hpos : (0 : Int) < (r.length : Int) + 1 := by omega
    have hposd : decide ((0 : Int) < (r.length : Int) + 1) = true := by simp [hpos]
    have hw1 : IntKind.i64.wrap (r.length : Int) = r.length := by rw [IntKind.wrap_i64]; omega
    by_cases heq : x = t.c
    · have HL : Hid (lineZ st out t = (x :: r, out1 ++ [markZ sSemi])) := by
        show lineZ st out t = (x :: r, out1 ++ [markZ sSemi])
        unfold lineZ
        rw [hP, heq]
        simp
      have hb : (x == t.c) = true := by simp [heq]
      clear hs1 hk1 hP heq
      go_wp2_with fail
      refine (putIn_any ⟨#[59]⟩ (by decide) HS1.out (by rw [List.length_cons]; omega)).mono ?_
      rintro e w3 ⟨rfl, hs3, hk3⟩
      have HS3 := hide hs3
      have HK3 := hide (HK1.out.trans hk3)
      clear hs3 hk3
      go_wp2
      go_end0
      refine ⟨rfl, ?_, HK3.out⟩
      rw [HL.out]
      exact HS3.out
    · have HL : Hid (lineZ st out t = (x :: r, out1)) := by
        show lineZ st out t = (x :: r, out1)
        unfold lineZ
        rw [hP]
        simp [heq]
      have hb : (x == t.c) = false := by simp [heq]
      clear hs1 hk1 hP heq
      go_wp2
      go_end0
      refine ⟨rfl, ?_, HK1.out⟩
      rw [HL.out]
      exact HS1.out

def beginsZ (st : List Int) (t : TokZ) : Bool := !(t.k == 6) && decide (greatZ st < t.c)
def begO (st : List Int) (out : List TokZ) (t : TokZ) : List TokZ := if beginsZ st t = true then out ++ [markZ sOpen] else out ++ [markZ sOpen] ++ [markZ sShut]
def begS (st : List Int) (t : TokZ) : List Int := if beginsZ st t = true then t.c :: st else st
theorem beg_yes {st : List Int} {t : TokZ} (h : beginsZ st t = true) (out : List TokZ) : begO st out t = out ++ [markZ sOpen] ∧ begS st t = t.c :: st := by
  unfold begO begS
  rw [h]
  exact ⟨rfl, rfl⟩
theorem beg_no {st : List Int} {t : TokZ} (h : beginsZ st t = false) (out : List TokZ) : begO st out t = out ++ [markZ sOpen] ++ [markZ sShut] ∧ begS st t = st := by
  unfold begO begS
  rw [h]
  exact ⟨rfl, rfl⟩
set_option maxHeartbeats 2000000 in
set_option maxRecDepth 100000 in
theorem begin_any {w : World} {K : Nat → Prop} {g : Nat} {out : List TokZ} {st : List Int} {wait : Bool} {line : Int} (t : TokZ) (h : ImplAt w K g out st wait line) (hn : out.length + st.length ≤ 8000000) :
    Calls Try.prog 63 #[.pointer (some ⟨g, 0, none⟩), aggZ t] w fun e w' => e = .returned (.bool (beginsZ st t)) ∧ ImplAt w' K g (begO st out t) (begS st t) wait line ∧ Keeps K w w' := by
  have HK0 := hide (keeps_alloc w (tokObj t) (ImplAt.kw h))
  have HS0 := hide (ImplAt.box h (tokObj t))
  have HX0 := hide (heap_alloc_new w (tokObj t))
  clear h
  unfold aggZ
  go_enter Try.func63, Try.ntmps63
  go_wp2_with fail
  refine (putIn_any ⟨#[123]⟩ (by decide) HS0.out (by omega)).mono ?_
  rintro e w1 ⟨rfl, hs1, hk1⟩
  have HS1 := hide hs1
  have HK1 := hide (HK0.out.trans (hk1.mono fun k hk => Or.inl hk))
  obtain ⟨x0, x1, x2, x3⟩ := tokObj_cells ((hk1.block w.heap.size (Or.inr rfl)).trans HX0.out)
  have HX1 := hide ((hk1.block w.heap.size (Or.inr rfl)).trans HX0.out)
  have hl1 : (out ++ [markZ ⟨#[123]⟩]).length = out.length + 1 := by rw [List.length_append]; rfl
  have HL1 := hide hl1
  clear hs1 hk1 hl1
  have HBG : Hid (beginsZ st t = (!(t.k == 6) && decide (greatZ st < t.c))) := rfl
  generalize hG : greatZ st = G at HBG
  have HG := hide hG
  clear hG
  cases h6 : (t.k == 6)
  · rw [h6] at HBG
    by_cases hgt : G < t.c
    · have hle : decide (t.c ≤ G) = false := by simp; omega
      have hle2 : ¬ t.c ≤ G := by omega
      have HB : Hid (beginsZ st t = true) := by
        show beginsZ st t = true
        rw [HBG.out]
        simp [hgt]
      clear HBG
      go_wp2
      go_quiet ((go_at_call 94; refine greatest_quiet HS1.out (by have := HL1.out; omega) _ G HG.out))
      go_wp2_with fail
      refine (push_any t.c (ImplAt.drewN HS1.out _) (by have := HL1.out; omega)).mono ?_
      rintro e w2 ⟨rfl, hs2, hk2⟩
      have HS2 := hide hs2
      have HK2 := hide ((Keeps.drewN HK1.out _).trans (hk2.mono fun k hk => Or.inl hk))
      clear hs2 hk2
      go_wp2
      go_ret
      refine ⟨by first | rfl | (rw [HB.out]; rfl), ?_, HK2.out⟩
      have hfin : ImplAt w2 K g _ _ wait line := ImplAt.less HS2.out fun k hk => Or.inl hk
      rw [(beg_yes HB.out out).1, (beg_yes HB.out out).2]; exact hfin
    · have hle : decide (t.c ≤ G) = true := by simp; omega
      have hle2 : t.c ≤ G := by omega
      have HB : Hid (beginsZ st t = false) := by
        show beginsZ st t = false
        rw [HBG.out]
        simp [hgt]
      clear HBG
      go_wp2
      go_quiet ((go_at_call 94; refine greatest_quiet HS1.out (by have := HL1.out; omega) _ G HG.out))
      go_wp2_with fail
      refine (putIn_any ⟨#[125]⟩ (by decide) (ImplAt.drewN HS1.out _) (by have := HL1.out; omega)).mono ?_
      rintro e w2 ⟨rfl, hs2, hk2⟩
      have HS2 := hide hs2
      have HK2 := hide ((Keeps.drewN HK1.out _).trans (hk2.mono fun k hk => Or.inl hk))
      clear hs2 hk2
      go_wp2
      go_ret
      refine ⟨by first | rfl | (rw [HB.out]; rfl), ?_, HK2.out⟩
      have hfin : ImplAt w2 K g _ _ wait line := ImplAt.less HS2.out fun k hk => Or.inl hk
      rw [(beg_no HB.out out).1, (beg_no HB.out out).2]; exact hfin
  · have HB : Hid (beginsZ st t = false) := by
      show beginsZ st t = false
      rw [HBG.out, h6]
      rfl
    clear HBG
    go_wp2
    go_quiet (fail)
    go_wp2_with fail
    refine (putIn_any ⟨#[125]⟩ (by decide) (ImplAt.drewN HS1.out _) (by have := HL1.out; omega)).mono ?_
    rintro e w2 ⟨rfl, hs2, hk2⟩
    have HS2 := hide hs2
    have HK2 := hide ((Keeps.drewN HK1.out _).trans (hk2.mono fun k hk => Or.inl hk))
    clear hs2 hk2
    go_wp2
    go_ret
    refine ⟨by first | rfl | (rw [HB.out]; rfl), ?_, HK2.out⟩
    have hfin : ImplAt w2 K g _ _ wait line := ImplAt.less HS2.out fun k hk => Or.inl hk
    rw [(beg_no HB.out out).1, (beg_no HB.out out).2]; exact hfin
end Go.Proofs.Ytfcgfinohhhpiai.I
