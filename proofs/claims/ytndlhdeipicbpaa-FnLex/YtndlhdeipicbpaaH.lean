/- strings.IndexRune at the text of all marks. -/
import Derived.Test.YtndlhdeipicbpaaF
import Derived.Test.YtndlhdeipicbpaaShelf
import Derived.Laws.Runes
import Derived.BigQuiet
import Derived.Deep.QuietTactic
namespace Go.Proofs.Ytndlhdeipicbpaa
open Go.RowKit

theorem indexByte_none (c : UInt8) : ∀ l : List UInt8, (∀ x ∈ l, x ≠ c) → Lib.indexByte l c = -1 := by
  intro l
  induction l with
  | nil => intro _; rfl
  | cons b l ih =>
    intro h
    have hb : (b == c) = false := by simpa using h b (by simp)
    rw [Lib.indexByte, hb, ih (fun x hx => h x (by simp [hx]))]
    rfl
theorem marks_no (a b : Nat) (c : UInt8) (hc : 128 ≤ c.toNat) : Lib.indexByte ((ByteArray.mk #[40, 41, 123, 125, 59, 61, 92, 124, 43, 45, 42, 60, 95]).extract a b).data.toList c = -1 := by
  refine indexByte_none c _ fun x hx e => ?_
  have hm := mem_extract hx
  have hs : ∀ y ∈ (ByteArray.mk #[40, 41, 123, 125, 59, 61, 92, 124, 43, 45, 42, 60, 95]).data.toList, y.toNat < 128 := by decide
  have := hs x hm
  rw [e] at this
  omega

set_option maxHeartbeats 2000000 in
set_option maxRecDepth 1000000 in
theorem indexRune_2 (r : Nat) (w : World) (h1 : 128 ≤ r) (hv : Lib.validRune (r : Int) = true) (hne : r ≠ 65533) (b0 b1 : UInt8) (he : Utf8.encode (r : Int) = ⟨#[b0, b1]⟩) (hb : 128 ≤ b1.toNat) :
    Calls Try.prog 57 #[.string ⟨#[40, 41, 123, 125, 59, 61, 92, 124, 43, 45, 42, 60, 95]⟩, .int .i32 r] w fun e w' => e = .returned (.int .i64 (-1)) ∧ Below w.heap.size w w' := by
  have hb0 : ((r : Int) == 65533) = false := by simp; omega
  have hm : ((((ByteArray.mk #[40, 41, 123, 125, 59, 61, 92, 124, 43, 45, 42, 60, 95])[1]'(by decide)).toNat : Int) != (((ByteArray.mk #[b0, b1])[1]'(by show 1 < 2; omega)).toNat : Int)) = true := by
    show ((41 : Int) != (b1.toNat : Int)) = true
    rw [bne_iff_ne]; omega
  have hn : ¬ (r : Int) < 128 := by omega
  have hwr : IntKind.i64.wrap 2 = 2 := by decide
  have hsl : ∀ W, (Instr.slice 9 (.string ⟨#[40, 41, 123, 125, 59, 61, 92, 124, 43, 45, 42, 60, 95]⟩) (some (.int .i64 2)) none none).run Try.prog W = .ok (.string ((ByteArray.mk #[40, 41, 123, 125, 59, 61, 92, 124, 43, 45, 42, 60, 95]).extract 2 13)) W := fun _ => by kernel_rfl
  have hix : Lib.indexByte [123, 125, 59, 61, 92, 124, 43, 45, 42, 60, 95] ((ByteArray.mk #[b0, b1])[1]'(by show 1 < 2; omega)) = -1 := marks_no 2 13 b1 hb
  go_enter Try.func57, Try.ntmps57
  go_wp2_with fail
  refine (Try.utf8_ValidRune _ _).mono ?_
  rintro e w' ⟨rfl, rfl⟩
  rw [hv]
  clear hv hne
  go_wp2_with fail
  go_step3
  go_wp2
  refine wp_loop_rounds 1 ?_
  rw [rounds_succ]
  go_wp2
  go_step3
  go_wp2
  go_quiet (fail)
  go_wp2
  go_quiet ((go_at_call 59; refine (Try.strings_IndexByte _ _ _).mono ?_; rintro e w1 ⟨rfl, rfl⟩; exact ⟨rfl, _, rfl⟩))
  go_wp2
  rw [Exit.noGoto_ret]
  go_wp2
  rw [Exit.noGoto_ret]
  go_wp2
  go_ret
  exact ⟨rfl, below_drewN (Below.refl _ _) _⟩

set_option maxHeartbeats 2000000 in
set_option maxRecDepth 1000000 in
theorem indexRune_3 (r : Nat) (w : World) (h1 : 128 ≤ r) (hv : Lib.validRune (r : Int) = true) (hne : r ≠ 65533) (b0 b1 b2 : UInt8) (he : Utf8.encode (r : Int) = ⟨#[b0, b1, b2]⟩) (hb : 128 ≤ b2.toNat) :
    Calls Try.prog 57 #[.string ⟨#[40, 41, 123, 125, 59, 61, 92, 124, 43, 45, 42, 60, 95]⟩, .int .i32 r] w fun e w' => e = .returned (.int .i64 (-1)) ∧ Below w.heap.size w w' := by
  have hb0 : ((r : Int) == 65533) = false := by simp; omega
  have hm : ((((ByteArray.mk #[40, 41, 123, 125, 59, 61, 92, 124, 43, 45, 42, 60, 95])[2]'(by decide)).toNat : Int) != (((ByteArray.mk #[b0, b1, b2])[2]'(by show 2 < 3; omega)).toNat : Int)) = true := by
    show ((123 : Int) != (b2.toNat : Int)) = true
    rw [bne_iff_ne]; omega
  have hn : ¬ (r : Int) < 128 := by omega
  have hwr : IntKind.i64.wrap 3 = 3 := by decide
  have hsl : ∀ W, (Instr.slice 9 (.string ⟨#[40, 41, 123, 125, 59, 61, 92, 124, 43, 45, 42, 60, 95]⟩) (some (.int .i64 3)) none none).run Try.prog W = .ok (.string ((ByteArray.mk #[40, 41, 123, 125, 59, 61, 92, 124, 43, 45, 42, 60, 95]).extract 3 13)) W := fun _ => by kernel_rfl
  have hix : Lib.indexByte [125, 59, 61, 92, 124, 43, 45, 42, 60, 95] ((ByteArray.mk #[b0, b1, b2])[2]'(by show 2 < 3; omega)) = -1 := marks_no 3 13 b2 hb
  go_enter Try.func57, Try.ntmps57
  go_wp2_with fail
  refine (Try.utf8_ValidRune _ _).mono ?_
  rintro e w' ⟨rfl, rfl⟩
  rw [hv]
  clear hv hne
  go_wp2_with fail
  go_step3
  go_wp2
  refine wp_loop_rounds 1 ?_
  rw [rounds_succ]
  go_wp2
  go_step3
  go_wp2
  go_quiet (fail)
  go_wp2
  go_quiet ((go_at_call 59; refine (Try.strings_IndexByte _ _ _).mono ?_; rintro e w1 ⟨rfl, rfl⟩; exact ⟨rfl, _, rfl⟩))
  go_wp2
  rw [Exit.noGoto_ret]
  go_wp2
  rw [Exit.noGoto_ret]
  go_wp2
  go_ret
  exact ⟨rfl, below_drewN (Below.refl _ _) _⟩

set_option maxHeartbeats 2000000 in
set_option maxRecDepth 1000000 in
theorem indexRune_4 (r : Nat) (w : World) (h1 : 128 ≤ r) (hv : Lib.validRune (r : Int) = true) (hne : r ≠ 65533) (b0 b1 b2 b3 : UInt8) (he : Utf8.encode (r : Int) = ⟨#[b0, b1, b2, b3]⟩) (hb : 128 ≤ b3.toNat) :
    Calls Try.prog 57 #[.string ⟨#[40, 41, 123, 125, 59, 61, 92, 124, 43, 45, 42, 60, 95]⟩, .int .i32 r] w fun e w' => e = .returned (.int .i64 (-1)) ∧ Below w.heap.size w w' := by
  have hb0 : ((r : Int) == 65533) = false := by simp; omega
  have hm : ((((ByteArray.mk #[40, 41, 123, 125, 59, 61, 92, 124, 43, 45, 42, 60, 95])[3]'(by decide)).toNat : Int) != (((ByteArray.mk #[b0, b1, b2, b3])[3]'(by show 3 < 4; omega)).toNat : Int)) = true := by
    show ((125 : Int) != (b3.toNat : Int)) = true
    rw [bne_iff_ne]; omega
  have hn : ¬ (r : Int) < 128 := by omega
  have hwr : IntKind.i64.wrap 4 = 4 := by decide
  have hsl : ∀ W, (Instr.slice 9 (.string ⟨#[40, 41, 123, 125, 59, 61, 92, 124, 43, 45, 42, 60, 95]⟩) (some (.int .i64 4)) none none).run Try.prog W = .ok (.string ((ByteArray.mk #[40, 41, 123, 125, 59, 61, 92, 124, 43, 45, 42, 60, 95]).extract 4 13)) W := fun _ => by kernel_rfl
  have hix : Lib.indexByte [59, 61, 92, 124, 43, 45, 42, 60, 95] ((ByteArray.mk #[b0, b1, b2, b3])[3]'(by show 3 < 4; omega)) = -1 := marks_no 4 13 b3 hb
  go_enter Try.func57, Try.ntmps57
  go_wp2_with fail
  refine (Try.utf8_ValidRune _ _).mono ?_
  rintro e w' ⟨rfl, rfl⟩
  rw [hv]
  clear hv hne
  go_wp2_with fail
  go_step3
  go_wp2
  refine wp_loop_rounds 1 ?_
  rw [rounds_succ]
  go_wp2
  go_step3
  go_wp2
  go_quiet (fail)
  go_wp2
  go_quiet ((go_at_call 59; refine (Try.strings_IndexByte _ _ _).mono ?_; rintro e w1 ⟨rfl, rfl⟩; exact ⟨rfl, _, rfl⟩))
  go_wp2
  rw [Exit.noGoto_ret]
  go_wp2
  rw [Exit.noGoto_ret]
  go_wp2
  go_ret
  exact ⟨rfl, below_drewN (Below.refl _ _) _⟩

theorem decode_valid (s : ByteArray) (pos : Nat) : Lib.validRune ((Utf8.decode s pos).1 : Int) = true := by
  have hb : ∀ k, (s.get! (pos + k)).toNat < 256 := fun k => (s.get! (pos + k)).toNat_lt
  have h0 := hb 0; have h1 := hb 1; have h2 := hb 2; have h3 := hb 3
  rw [show Lib.validRune = validRune from rfl, ← validRune_eq]
  simp only [Utf8.decode]
  repeat' split
  all_goals simp_all [Utf8.valid, Utf8.runeError]
  all_goals omega

set_option maxHeartbeats 2000000 in
set_option maxRecDepth 1000000 in
theorem indexRune_err (w : World) :
    Calls Try.prog 57 #[.string ⟨#[40, 41, 123, 125, 59, 61, 92, 124, 43, 45, 42, 60, 95]⟩, .int .i32 65533] w fun e w' => e = .returned (.int .i64 (-1)) ∧ Below w.heap.size w w' := by
  go_enter Try.func57, Try.ntmps57
  go_wp2
  go_loopw [] (fun wr => ∃ pos : Nat, wr.heap[w.heap.size]? = some (.stringIter ⟨#[40, 41, 123, 125, 59, 61, 92, 124, 43, 45, 42, 60, 95]⟩ pos) ∧ Below w.heap.size w wr ∧ pos ≤ 13) (fun wr => 13 - wr.iterPos w.heap.size)
  case atStart =>
    exact ⟨0, World.iter_heap w _ 0, (Below.refl _ w).alloc (Nat.le_refl _) _, by omega⟩
  case round =>
    obtain ⟨pos, hit, hbw, hpos⟩ := hrel
    by_cases hp : pos < 13
    · have hps : pos < (ByteArray.mk #[40, 41, 123, 125, 59, 61, 92, 124, 43, 45, 42, 60, 95]).size := hp
      have ha : ((ByteArray.mk #[40, 41, 123, 125, 59, 61, 92, 124, 43, 45, 42, 60, 95])[pos]'hps).toNat < 128 := by
        have hs : ∀ y ∈ (ByteArray.mk #[40, 41, 123, 125, 59, 61, 92, 124, 43, 45, 42, 60, 95]).data.toList, y.toNat < 128 := by decide
        exact hs _ (Array.getElem_mem_toList (xs := (ByteArray.mk #[40, 41, 123, 125, 59, 61, 92, 124, 43, 45, 42, 60, 95]).data) hps)
      generalize hc : ((ByteArray.mk #[40, 41, 123, 125, 59, 61, 92, 124, 43, 45, 42, 60, 95])[pos]'hps).toNat = c at ha
      have hnx : ∀ ty, (Instr.next (.pointer (some ⟨w.heap.size, 0, none⟩)) true ty).run Try.prog wr = .ok (.tuple #[.bool true, .int .i64 pos, .int .i32 c]) (wr.iterAt w.heap.size ⟨#[40, 41, 123, 125, 59, 61, 92, 124, 43, 45, 42, 60, 95]⟩ (pos + 1)) := fun ty => by
        rw [← hc]
        exact Lib.run_next_ascii_at wr w.heap.size _ pos ty hit hps (by rw [hc]; exact ha)
      have hne : ((c : Int) == 65533) = false := by simp; omega
      have hit2 := hide (Lib.iterAt_heap wr w.heap.size _ pos (pos + 1) hit)
      have hbw2 := hide (Lib.below_iterAt hbw (k := w.heap.size) (Nat.le_refl _) ⟨#[40, 41, 123, 125, 59, 61, 92, 124, 43, 45, 42, 60, 95]⟩ (pos + 1))
      clear hc
      go_wp2
      go_roundw
      case rel => exact ⟨pos + 1, hit2.out, hbw2.out, by omega⟩
      case measure =>
        rw [iterPos_at _ _ _ _ hit2.out, iterPos_at _ _ _ _ hit]
        omega
    · have hnx : ∀ ty, (Instr.next (.pointer (some ⟨w.heap.size, 0, none⟩)) true ty).run Try.prog wr = _ := fun ty => Lib.run_next_end_at wr w.heap.size _ pos ty hit hp
      have hbw2 := hide hbw
      clear hbw
      go_wp2
      go_ret
      exact ⟨rfl, hbw2.out⟩

theorem size_list (E : ByteArray) (n : Nat) (h : E.size = n) : E.data.toList.length = n := by rw [data_length]; exact h
theorem indexRune_high (r : Nat) (w : World) (h1 : 128 ≤ r) (hv : Lib.validRune (r : Int) = true) :
    Calls Try.prog 57 #[.string ⟨#[40, 41, 123, 125, 59, 61, 92, 124, 43, 45, 42, 60, 95]⟩, .int .i32 r] w fun e w' => e = .returned (.int .i64 (-1)) ∧ Below w.heap.size w w' := by
  by_cases hne : r = 65533
  · subst hne
    exact indexRune_err w
  · obtain ⟨f1, f2, f3⟩ := encode_facts (r : Int) (by rw [validRune_eq]; exact hv) (by omega)
    generalize he : Utf8.encode (r : Int) = E at f1 f2 f3
    obtain ⟨⟨l⟩⟩ := E
    match l, f1, f2, f3, he with
    | [b0, b1], _, _, f3, he => exact indexRune_2 r w h1 hv hne b0 b1 he (f3 (by show 1 < 2; omega))
    | [b0, b1, b2], _, _, f3, he => exact indexRune_3 r w h1 hv hne b0 b1 b2 he (f3 (by show 2 < 3; omega))
    | [b0, b1, b2, b3], _, _, f3, he => exact indexRune_4 r w h1 hv hne b0 b1 b2 b3 he (f3 (by show 3 < 4; omega))
    | [], f1, _, _, _ => exact absurd f1 (by show ¬ 2 ≤ 0; omega)
    | [_], f1, _, _, _ => exact absurd f1 (by show ¬ 2 ≤ 1; omega)
    | _ :: _ :: _ :: _ :: _ :: l, _, f2, _, _ => exact absurd f2 (by show ¬ (l.length + 1 + 1 + 1 + 1 + 1 ≤ 4); omega)

theorem indexByte_any (c : UInt8) : ∀ l : List UInt8, -1 ≤ Lib.indexByte l c ∧ decide (0 ≤ Lib.indexByte l c) = l.any fun m => m == c := by
  intro l
  induction l with
  | nil => exact ⟨by show (-1 : Int) ≤ -1; omega, rfl⟩
  | cons b l ih =>
    rw [Lib.indexByte, List.any_cons]
    cases hb : b == c
    · rw [← ih.2]
      have h1 := ih.1
      by_cases hm : Lib.indexByte l c = -1
      · rw [hm]; exact ⟨by decide, by decide⟩
      · have : (Lib.indexByte l c == -1) = false := by simp [hm]
        rw [this]
        refine ⟨by simp; omega, ?_⟩
        simp
        omega
    · exact ⟨by simp, by simp⟩
def markR (r : Nat) : Bool := decide (r < 128) && markB (r.toUInt8)
theorem containsMark_any (r : Nat) (w : World) (hv : Lib.validRune (r : Int) = true) :
    Calls Try.prog 48 #[.string ⟨#[40, 41, 123, 125, 59, 61, 92, 124, 43, 45, 42, 60, 95]⟩, .int .i32 r] w fun e w' => e = .returned (.bool (markR r)) ∧ Below w.heap.size w w' := by
  by_cases h : r < 128
  · refine (Try.strings_ContainsRune_ascii _ _ _ (by omega) (by omega)).mono ?_
    rintro e w' ⟨rfl, rfl⟩
    refine ⟨ret_bool ?_, Below.refl _ _⟩
    rw [Int.toNat_natCast, (indexByte_any _ _).2, markR, decide_eq_true h, Bool.true_and]
    rfl
  · go_enter Try.func48, Try.ntmps48
    go_wp2_with fail
    refine (indexRune_high r _ (by omega) hv).mono ?_
    rintro e w1 ⟨rfl, hb⟩
    have HB := hide hb
    clear hb
    go_wp2
    go_ret
    exact ⟨ret_bool (by rw [markR, decide_eq_false h]; rfl), HB.out⟩
end Go.Proofs.Ytndlhdeipicbpaa
