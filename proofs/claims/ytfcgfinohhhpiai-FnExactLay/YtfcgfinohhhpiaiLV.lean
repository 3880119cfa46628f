/- The program's Lay. -/
import Derived.Test.YtfcgfinohhhpiaiLU
namespace Go.Proofs.Ytfcgfinohhhpiai.I
open Go.RowKit Go.Proofs.Ytfcgfinohhhpiai

theorem runZ_cons {ts : List TokZ} {i : Nat} {t : TokZ} (h : ts[i]? = some t) (st : List Int) (out : List TokZ) (wait : Bool) (line : Int) : runZ (ts.drop i) st out wait line = match stepZ st out wait t line with | none => none | some (a, b, c) => runZ (ts.drop (i + 1)) a b c t.l := by
  have e : ts.drop i = t :: ts.drop (i + 1) := by
    obtain ⟨hi, rfl⟩ := List.getElem?_eq_some_iff.1 h
    exact List.drop_eq_getElem_cons hi
  rw [e]
  rfl
theorem runZ_end {ts : List TokZ} {i : Nat} (h : ts.length ≤ i) (st : List Int) (out : List TokZ) (wait : Bool) (line : Int) : runZ (ts.drop i) st out wait line = some (st, out) := by
  rw [List.drop_eq_nil_of_le h]
  rfl
theorem laid_none {ts : List TokZ} (h : layZ ts = none) : laidTs ts = [] ∧ laidOk ts = false := by
  unfold laidTs laidOk
  rw [h]
  exact ⟨rfl, rfl⟩
theorem laid_some {ts out : List TokZ} (h : layZ ts = some out) : laidTs ts = out ∧ laidOk ts = true := by
  unfold laidTs laidOk
  rw [h]
  exact ⟨rfl, rfl⟩
/-- Nothing, and false, laid in new memory. -/
theorem nothing_laid {ts : List TokZ} {w w1 : World} (h : layZ ts = none) (hb : Below w.heap.size w w1) : ∃ v, Ending.returned (.tuple #[.slice (some ⟨w1.heap.size, 0, none⟩) 0 0, .bool false]) = .returned (.tuple #[v, .bool (laidOk ts)]) ∧ (w1.alloc (.cells #[] 70)).ownsRow w.heap.size 70 4 v (laidTs ts).length (rowZ (laidTs ts)) ∧ Below w.heap.size w (w1.alloc (.cells #[] 70)) := by
  obtain ⟨h1, h2⟩ := laid_none h
  rw [h1, h2]
  refine ⟨_, rfl, owns_base (owns_empty w1 _ 4) (fun k hk => ?_), hb.alloc hb.size _⟩
  have : w1.heap.size = k := Option.some.inj hk
  have := hb.size
  omega


theorem ImplAt.start (w : World) : ImplAt ((w.alloc (.cells #[] 70)).alloc (.cells #[.slice none 0 0, .bool true, .int .i64 0, .slice (some ⟨w.heap.size, 0, none⟩) 0 0] 73)) (· < w.heap.size) (w.heap.size + 1) [] [] true 0 := by
  have hsz : (w.alloc (.cells #[] 70)).heap.size = w.heap.size + 1 := by simp
  have hnew := heap_alloc_new (w.alloc (.cells #[] 70)) (.cells #[.slice none 0 0, .bool true, .int .i64 0, .slice (some ⟨w.heap.size, 0, none⟩) 0 0] 73)
  rw [hsz] at hnew
  refine ⟨.slice (some ⟨w.heap.size, 0, none⟩) 0 0, .slice none 0 0, hnew, ⟨?_, World.ownsRow_nil _ _ _ _, ?_, ?_, ?_, ?_, ?_, ?_, ?_, ?_⟩⟩
  · exact owns_base ((owns_empty w 70 4).alloc _) fun _ _ => Nat.zero_le _
  · intro h
    have : w.heap.size = w.heap.size + 1 := Option.some.inj h
    omega
  · intro h; cases h
  · right; intro h; cases h
  · show ¬ w.heap.size + 1 < w.heap.size
    omega
  · intro k h
    have : w.heap.size = k := Option.some.inj h
    show ¬ k < w.heap.size
    omega
  · intro k h; cases h
  · intro k h
    have h2 : k < w.heap.size := h
    show k < ((w.alloc _).alloc _).heap.size
    simp
    omega
  · show w.heap.size + 1 < ((w.alloc _).alloc _).heap.size
    simp

set_option maxHeartbeats 4000000 in
set_option maxRecDepth 100000 in
theorem implLay_any (ts : List TokZ) (hts : ts.length ≤ 1048576) (hss : ∀ t ∈ ts, t.s.size ≤ 1048576) (o : Option Addr) (b cap : Nat) (w : World) (hm : ToksAt w o b 0 ts) :
    Calls Try.prog 11 #[.slice o ts.length cap] w fun e w' => ∃ v, e = .returned (.tuple #[v, .bool (laidOk ts)]) ∧ w'.ownsRow w.heap.size 70 4 v (laidTs ts).length (rowZ (laidTs ts)) ∧ Below w.heap.size w w' := by
  have HM := hide hm
  have HSS := hide hss
  have HS0 := hide (ImplAt.start w)
  clear hm hss
  go_enter Try.func11, Try.ntmps11
  go_wp2
  go_loopw [11] (fun t11 wr => ∃ (i : Nat) (line : Int) (st : List Int) (out : List TokZ) (wait : Bool), i ≤ ts.length ∧ t11 = .int .i64 i ∧ ImplAt wr (· < w.heap.size) (w.heap.size + 1) out st wait line ∧ out.length + st.length ≤ 6 * i ∧ out.length ≤ 900 ∧ runZ ts [] [] true 0 = runZ (ts.drop i) st out wait line ∧ Below w.heap.size w wr) (fun t11 _ => ts.length - (intOf t11).toNat)
  case atStart => exact ⟨0, 0, [], [], true, Nat.zero_le _, rfl, HS0.out, by simp, by simp, rfl, ((Below.refl _ w).alloc (Nat.le_refl _) _).alloc (by simp) _⟩
  case round =>
    obtain ⟨i, line, st, out, wait, hi, rfl, hS, hn, h900, hR, hbw⟩ := hrel
    have HS := hide hS
    have HR := hide hR
    have HBW := hide hbw
    have hszw := hbw.size
    obtain ⟨o0, n0, o1, n1, c0, -, -, c3, hown, hko, -⟩ := ImplAt.facts hS
    have HOWN := hide hown
    have HKO := hide hko
    clear hS hR hbw hown hko
    by_cases hlt : i < ts.length
    · have hne : ts ≠ [] := by intro e; rw [e] at hlt; simp at hlt
      obtain ⟨t, ht⟩ : ∃ t, ts[i]? = some t := ⟨ts[i], List.getElem?_eq_getElem hlt⟩
      obtain ⟨eo, hbl, hcs⟩ := (toksAt_later HM.out HBW.out) hne
      subst eo
      have hA := hcs i t ht
      rw [Nat.zero_add] at hA
      obtain ⟨x0, x1, x2, x3⟩ := hA
      have HRC := hide (runZ_cons ht st out wait line)
      have hts2 := HSS.out t (List.mem_of_getElem? ht)
      clear hcs ht hne
      have hlt2 : (i : Int) < ts.length := by omega
      have HSA := hide (ImplAt.later HS.out ((Below.refl _ wr).alloc (Nat.le_refl _) (tokObj t)))
      have HBA : Hid (Below w.heap.size w (wr.alloc (tokObj t))) := HBW.out.alloc hszw _
      go_wp2_with fail
      rw [tok_eta2]
      refine (take_any t hts2 HSA.out (by omega)).mono ?_
      rintro e w1 (⟨a, bb, c, hz, rfl, hs1, hk1⟩ | ⟨hz, rfl, hk1⟩)
      · have hsum := stepZ_sum hz
        have HRN : Hid (runZ ts [] [] true 0 = runZ (ts.drop (i + 1)) a bb c t.l) := by
          show runZ ts [] [] true 0 = _
          rw [HR.out, HRC.out, hz]
        obtain ⟨p0, q0, p1, q1, -, -, -, d3, -, -, -⟩ := ImplAt.facts hs1
        have HS1 := hide hs1
        have HB1 := hide (HBA.out.trans hk1.below)
        clear hs1 hk1 hz c0 c3
        by_cases hov : 900 < bb.length
        · have HN : Hid (layZ ts = none) := by
            show layZ ts = none
            unfold layZ
            rw [HRN.out]
            exact runZ_long _ _ _ _ _ hov
          have ho1 : (900 : Int) < bb.length := by omega
          have ho2 : decide ((900 : Int) < bb.length) = true := by simp [ho1]
          have ho3 : decide (900 < bb.length) = true := by simp [hov]
          go_wp2
          go_ret2
          exact nothing_laid HN.out HB1.out
        · have ho1 : ¬ (900 : Int) < bb.length := by omega
          have ho2 : decide ((900 : Int) < bb.length) = false := by simp [ho1]
          have ho3 : decide (900 < bb.length) = false := by simp [hov]
          go_wp2
          refine ⟨⟨i + 1, t.l, a, bb, c, by omega, by go_num, HS1.out, by omega, by omega, HRN.out, HB1.out⟩, by simp [intOf]; omega⟩
      · have HN : Hid (layZ ts = none) := by
          show layZ ts = none
          unfold layZ
          rw [HR.out, HRC.out, hz]
          rfl
        have HB1 := hide (HBA.out.trans hk1.below)
        clear hk1 hz c0 c3
        go_wp2
        go_ret2
        exact nothing_laid HN.out HB1.out
    · have HL : Hid (layZ ts = doneZ (some (st, out))) := by
        show layZ ts = _
        unfold layZ
        rw [HR.out, runZ_end (by omega)]
      cases st with
      | cons x r =>
        have HN : Hid (layZ ts = none) := by
          show layZ ts = none
          rw [HL.out]
          unfold doneZ
          simp only
          rw [if_neg (by rw [List.length_cons]; omega)]
        simp only [List.length_cons] at c0
        have hs : (0 : Int) < (r.length : Int) + 1 := by omega
        have hsd : decide ((0 : Int) < (r.length : Int) + 1) = true := by simp [hs]
        go_wp2
        go_ret2
        exact nothing_laid HN.out HBW.out
      | nil =>
        simp only [List.length_nil] at c0
        have HN : Hid (layZ ts = some out) := by
          show layZ ts = some out
          rw [HL.out]
          unfold doneZ
          simp only
          rw [if_pos ⟨rfl, h900⟩]
        go_wp2
        go_ret2
        obtain ⟨h1, h2⟩ := laid_some HN.out
        rw [h1, h2]
        exact ⟨_, rfl, owns_base HOWN.out fun k hk => Nat.le_of_not_lt (HKO.out k hk), HBW.out⟩
end Go.Proofs.Ytfcgfinohhhpiai.I
