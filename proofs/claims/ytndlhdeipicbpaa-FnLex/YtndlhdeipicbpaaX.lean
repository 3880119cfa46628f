/- The program's TokText; the law's sameToks. -/
import Derived.Test.YtndlhdeipicbpaaTM
import Derived.Test.YtndlhdeipicbpaaW
import Derived.BigQuiet
import Derived.Deep.QuietTactic
namespace Go.Proofs.Ytndlhdeipicbpaa
open Go.RowKit

def jt (acc : List UInt8 × Bool) (t : TokP) : List UInt8 × Bool := if t.k = 6 then acc else (acc.1 ++ (if acc.2 then [32] else []) ++ t.s, true)
def jAll (ts : List TokP) : List UInt8 × Bool := ts.foldl jt ([], false)
def btw (b : Bool) : ByteArray := ⟨(if b then [32] else ([] : List UInt8)).toArray⟩
theorem jAll_snoc (ts : List TokP) (t : TokP) : jAll (ts ++ [t]) = jt (jAll ts) t := by
  unfold jAll; rw [List.foldl_append]; rfl
theorem take_snoc_tok (ts : List TokP) (i : Nat) (t : TokP) (h : ts[i]? = some t) : ts.take (i + 1) = ts.take i ++ [t] := by
  obtain ⟨hlt, rfl⟩ := List.getElem?_eq_some_iff.1 h
  exact List.take_succ_eq_append_getElem hlt
theorem jAll_len (ts : List TokP) (h : ∀ t ∈ ts, t.s.length ≤ 1500) : (jAll ts).1.length ≤ 1501 * ts.length := by
  have key : ∀ (l : List TokP) (acc : List UInt8 × Bool), (∀ t ∈ l, t.s.length ≤ 1500) → (l.foldl jt acc).1.length ≤ acc.1.length + 1501 * l.length := by
    intro l
    induction l with
    | nil => intro acc _; simp
    | cons t r ih =>
      intro acc hl
      rw [List.foldl_cons]
      have h1 := ih (jt acc t) (fun x hx => hl x (by simp [hx]))
      have h2 : (jt acc t).1.length ≤ acc.1.length + 1501 := by
        unfold jt
        split
        · omega
        · have := hl t (by simp)
          show (acc.1 ++ _ ++ t.s).length ≤ _
          rw [List.length_append, List.length_append]
          have : (if acc.2 = true then [32] else ([] : List UInt8)).length ≤ 1 := by split <;> simp
          omega
      rw [List.length_cons]
      omega
  have := key ts ([], false) h
  simpa [jAll] using this
theorem strCells_list (l : List UInt8) : Lib.strCells ⟨l.toArray⟩ = Lib.byteCells l := by
  unfold Lib.strCells
  rfl

set_option maxHeartbeats 2000000 in
set_option maxRecDepth 100000 in
theorem tokText_any (ts : List TokP) (hts : ts.length ≤ 1501) (hs : ∀ t ∈ ts, t.s.length ≤ 1500) (o : Option Addr) (g cap : Nat) (w : World) (hm : TokMem w o g ts) :
    Calls Try.prog 15 #[.slice o ts.length cap] w fun e w' => e = .returned (.string ⟨(jAll ts).1.toArray⟩) ∧ Below w.heap.size w w' := by
  have HM := hide hm
  have HS := hide hs
  clear hm hs
  go_enter Try.func15, Try.ntmps15
  go_wp2
  go_loopw [4, 9] (fun t4 t9 wr => ∃ (i : Nat) (acc : List UInt8 × Bool), i ≤ ts.length ∧ t9 = .int .i64 i ∧ t4 = .string (btw acc.2) ∧ acc = jAll (ts.take i) ∧ Lib.IsBuilderF 52 5 w.heap.size w.heap.size (Lib.byteCells acc.1) wr ∧ Below w.heap.size w wr) (fun _ t9 _ => ts.length - (intOf t9).toNat)
  case atStart =>
    exact ⟨0, ([], false), Nat.zero_le _, rfl, rfl, rfl, Lib.IsBuilderF.of (Lib.fresh_isBuilder 52 5 w), (Below.refl _ w).alloc (Nat.le_refl _) _⟩
  case round =>
    obtain ⟨i, acc, hi, rfl, rfl, hacc, hbld, hbw⟩ := hrel
    have hal : acc.1.length ≤ 1501 * ts.length := by
      have h1 := jAll_len (ts.take i) (fun t ht => HS.out t (List.mem_of_mem_take ht))
      rw [← hacc, List.length_take] at h1
      have : min i ts.length ≤ ts.length := Nat.min_le_right _ _
      have : 1501 * min i ts.length ≤ 1501 * ts.length := Nat.mul_le_mul_left _ this
      omega
    have HACC := hide hacc
    have HBLD := hide hbld
    have HBW := hide hbw
    clear hacc hbld hbw
    by_cases hlt : i < ts.length
    · have hne : ts ≠ [] := by intro e; rw [e] at hlt; simp at hlt
      obtain ⟨t, ht⟩ : ∃ t, ts[i]? = some t := ⟨ts[i], List.getElem?_eq_getElem hlt⟩
      have hA := tokMem_below HM.out HBW.out HM.out.1
      have ea := hA.2.1 hne
      subst ea
      obtain ⟨a0, a1, a2, a3⟩ := hA.2.2 i hlt t ht
      have HSL := hide (HS.out t (List.mem_of_getElem? ht))
      have HTK := hide (take_snoc_tok ts i t ht)
      clear ht hA hne
      have hlt2 : (i : Int) < ts.length := by omega
      by_cases hk : t.k = 6
      · have hk2 : (((t.k : Nat) : Int) == 6) = true := by rw [hk]; rfl
        go_wp2
        refine ⟨⟨i + 1, acc, by omega, by go_num, rfl, ?_, HBLD.out.alloc _, HBW.out.alloc HBW.out.size _⟩, by simp [intOf]; omega⟩
        rw [HTK.out, jAll_snoc, ← HACC.out, jt, if_pos hk]
      · have hk2 : (((t.k : Nat) : Int) == 6) = false := by simp; omega
        have hbs : (btw acc.2).size ≤ 1 := by
          unfold btw
          show (if acc.2 = true then [32] else ([] : List UInt8)).toArray.size ≤ 1
          split <;> simp
        have hsl := HSL.out
        have hltw : w.heap.size < wr.heap.size := by
          rcases HBLD.out with ⟨_, v, hb, _⟩ | ⟨_, v, hb, _⟩
          · exact (Array.getElem?_eq_some_iff.1 hb).1
          · exact (Array.getElem?_eq_some_iff.1 hb).1
        go_wp2_with fail
        refine (writeString_any w.heap.size w.heap.size (Lib.byteCells acc.1) (btw acc.2) _ (HBLD.out.alloc _) (by rw [Lib.byteCells_length]; omega) (by simp; omega)).mono ?_
        rintro e w1 ⟨rfl, h1, b1, k1⟩
        have hblk := k1 wr.heap.size _ (heap_alloc_new wr _) (by intro e; have := Option.some.inj e; omega) (by intro c fz e; cases e)
        have hcell : w1.cell? ⟨wr.heap.size, 1, none⟩ = some (.string ⟨t.s.toArray⟩) := by rw [Lib.cell_of_heap hblk]; rfl
        have HB1 := hide ((HBW.out.alloc HBW.out.size (.cells #[.int .i64 (t.k : Nat), .string ⟨t.s.toArray⟩, .int .i64 (t.line : Nat), .int .i64 (t.col : Nat)] 32)).trans b1)
        have H1 := hide h1
        clear h1 b1 k1 hblk
        go_wp2_with fail
        refine (writeString_any w.heap.size w.heap.size _ ⟨t.s.toArray⟩ _ (Or.inr H1.out) (by rw [List.length_append, Lib.byteCells_length, Lib.strCells_length]; show acc.1.length + (btw acc.2).size + t.s.toArray.size ≤ _; rw [List.size_toArray]; omega) HB1.out.size).mono ?_
        rintro e w2 ⟨rfl, h2, b2, k2⟩
        have HB2 := hide (HB1.out.trans b2)
        have H2 := hide h2
        clear h2 b2 k2
        go_wp2
        refine ⟨⟨i + 1, jt acc t, by omega, by go_num, ?_, ?_, ?_, HB2.out⟩, by simp [intOf]; omega⟩
        · rw [jt, if_neg hk]; rfl
        · rw [HTK.out, jAll_snoc, ← HACC.out]
        · refine Or.inr ?_
          rw [jt, if_neg hk]
          show Lib.BuilderAtF _ _ _ _ _ (Lib.byteCells (acc.1 ++ (if acc.2 = true then [32] else []) ++ t.s)) w2
          rw [Lib.byteCells_append, Lib.byteCells_append, ← strCells_list t.s, ← strCells_list (if acc.2 = true then [32] else [])]
          exact H2.out
    · go_wp2_with fail
      refine (Try.Builder_String_any_k w.heap.size w.heap.size acc.1 _ HBLD.out HBW.out.size).mono ?_
      rintro e w1 ⟨rfl, _, b1, _⟩
      have HB1 := hide (HBW.out.trans b1)
      clear b1
      go_wp2
      go_ret
      refine ⟨?_, HB1.out⟩
      have h := HACC.out
      rw [List.take_of_length_le (by omega)] at h
      rw [← h]
      rfl

set_option maxHeartbeats 2000000 in
set_option maxRecDepth 100000 in
theorem sameToks_yes (ts : List TokP) (hts : ts.length ≤ 1501) (oa ob : Option Addr) (ga gb ca cb : Nat) (w : World) (ha : TokMem w oa ga ts) (hb : TokMem w ob gb ts) :
    Calls Try.prog 10 #[.slice oa ts.length ca, .slice ob ts.length cb] w fun e w' => e = .returned (.bool true) ∧ Below w.heap.size w w' := by
  have HA := hide ha
  have HB := hide hb
  clear ha hb
  go_enter Try.func10, Try.ntmps10
  go_wp2
  go_loopw [5] (fun t wr => ∃ k : Nat, k ≤ ts.length ∧ t = .int .i64 k ∧ Below w.heap.size w wr) (fun t _ => ts.length - (intOf t).toNat)
  case atStart => exact ⟨0, Nat.zero_le _, rfl, Below.refl _ _⟩
  case round =>
    obtain ⟨i, hi, rfl, hbw⟩ := hrel
    have HBW := hide hbw
    clear hbw
    by_cases hlt : i < ts.length
    · have hne : ts ≠ [] := by intro e; rw [e] at hlt; simp at hlt
      obtain ⟨t, ht⟩ : ∃ t, ts[i]? = some t := ⟨ts[i], List.getElem?_eq_getElem hlt⟩
      have hA := tokMem_below HA.out HBW.out HA.out.1
      have hB := tokMem_below HB.out HBW.out HB.out.1
      have ea := hA.2.1 hne
      have eb := hB.2.1 hne
      subst ea eb
      obtain ⟨a0, a1, a2, a3⟩ := hA.2.2 i hlt t ht
      obtain ⟨b0, b1, b2, b3⟩ := hB.2.2 i hlt t ht
      clear ht hA hB hne
      generalize ((t.k : Nat) : Int) = tk at *
      generalize (⟨t.s.toArray⟩ : ByteArray) = tS at *
      generalize ((t.line : Nat) : Int) = tl at *
      generalize ((t.col : Nat) : Int) = tc at *
      have hlt2 : (i : Int) < ts.length := by omega
      go_wp2
      go_quiet (fail)
      go_wp2
      refine ⟨⟨i + 1, by omega, by go_num, below_drewN HBW.out _⟩, by simp [intOf]; omega⟩
    · go_wp2
      go_ret
      exact ⟨rfl, HBW.out⟩
end Go.Proofs.Ytndlhdeipicbpaa
