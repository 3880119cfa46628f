/- How far a run of runes reaches, against bytes. -/
import Derived.Test.YtndlhdeipicbpaaE
namespace Go.Proofs.Ytndlhdeipicbpaa
open Go.RowKit

theorem decode_span (s : ByteArray) (pos : Nat) (h : pos < s.size) : 1 ≤ (Utf8.decode s pos).2 ∧ pos + (Utf8.decode s pos).2 ≤ s.size ∧ (∀ i, 1 ≤ i → i < (Utf8.decode s pos).2 → 128 ≤ (s.get! (pos + i)).toNat) := by
  simp only [Utf8.decode]
  repeat' split
  all_goals simp_all
  all_goals try omega
  all_goals
    refine ⟨by omega, fun i h1 h2 => ?_⟩
    have hi : i = 1 ∨ i = 2 ∨ i = 3 := by omega
    rcases hi with rfl | rfl | rfl <;> omega
theorem get_getD (s : ByteArray) (i : Nat) (h : i < s.size) : s.data.toList.getD i 0 = s[i] := by
  rw [List.getD_eq_getElem?_getD, List.getElem?_eq_getElem (by rw [data_length]; exact h)]
  rfl
theorem get_bang (s : ByteArray) (i : Nat) (h : i < s.size) : s.get! i = s[i] := get_at s i h

theorem takeWhile_len (p : UInt8 → Bool) (L : List UInt8) : ∀ k, k ≤ L.length → (∀ i, i < k → p (L.getD i 0) = true) → (k = L.length ∨ p (L.getD k 0) = false) → (L.takeWhile p).length = k := by
  induction L with
  | nil => intro k hk _ _; simp at hk; simp [hk]
  | cons c r ih =>
    intro k hk hall hend
    cases k with
    | zero =>
      rcases hend with he | he
      · simp at he
      · have : p c = false := he
        simp [this]
    | succ k =>
      have h0 : p c = true := hall 0 (by omega)
      rw [List.takeWhile_cons, if_pos h0, List.length_cons]
      congr 1
      refine ih k (by simpa using hk) (fun i hi => hall (i + 1) (by omega)) ?_
      rcases hend with he | he
      · left; simpa using he
      · right; simpa using he

def noNL (c : UInt8) : Bool := c != 10

theorem isNoLineEnd_any (r : Int) (w : World) : Calls Try.prog 24 #[.int .i32 r] w fun e w' => e = .returned (.bool (r != 10)) ∧ w' = w := by
  go_enter Try.func24, Try.ntmps24
  go_wp2
  go_ret
  exact ⟨rfl, rfl⟩

/-- The rune at a place against the byte there, for a test on runes and its twin on bytes. -/
def Span (P : Int → Bool) (p : UInt8 → Bool) : Prop := ∀ (s : ByteArray) (pos : Nat) (_ : pos < s.size), ∃ r d : Nat, Utf8.decode s pos = (r, d) ∧ P (r : Int) = p (s.data.toList.getD pos 0) ∧ 1 ≤ d ∧ (p (s.data.toList.getD pos 0) = true → pos + d ≤ s.size ∧ ∀ i, pos ≤ i → i < pos + d → p (s.data.toList.getD i 0) = true)

theorem span_of (P : Int → Bool) (p : UInt8 → Bool) (h1 : ∀ c : UInt8, P (c.toNat : Int) = p c) (h2 : ∀ r : Nat, 128 ≤ r → P (r : Int) = p 128) (h3 : ∀ c : UInt8, 128 ≤ c.toNat → p c = p 128) : Span P p := by
  intro s pos h
  have hsp := decode_span s pos h
  by_cases ha : (s[pos]'h).toNat < 128
  · refine ⟨(s[pos]'h).toNat, 1, decode_ascii s pos h ha, ?_, Nat.le_refl _, ?_⟩
    · rw [get_getD s pos h, h1]
    · intro ht
      refine ⟨by omega, fun i a b => ?_⟩
      have : i = pos := by omega
      rw [this]; exact ht
  · have hd := decode_high s pos h (by omega)
    refine ⟨(Utf8.decode s pos).1, (Utf8.decode s pos).2, rfl, ?_, hd.2, ?_⟩
    · rw [get_getD s pos h, h2 _ hd.1]
      exact (h3 _ (by omega)).symm
    · intro ht
      refine ⟨hsp.2.1, fun i a b => ?_⟩
      rw [get_getD s pos h, h3 _ (by omega)] at ht
      rw [get_getD s i (by omega)]
      by_cases e : i = pos
      · subst e; rw [h3 _ (by omega)]; exact ht
      · have hb := hsp.2.2 (i - pos) (by omega) (by omega)
        rw [show pos + (i - pos) = i from by omega, get_bang s i (by omega)] at hb
        rw [h3 _ hb]; exact ht

theorem span_lod : Span letB lodB := by
  refine span_of _ _ (fun _ => rfl) (fun r h => ?_) (fun c h => ?_)
  · rw [show lodB 128 = false from by decide]
    rw [letB, inB_hi (by omega), inB_hi (by omega), inB_hi (by omega)]
    rfl
  · rw [show lodB 128 = false from by decide]
    rw [lodB, letB, inB_hi (by omega), inB_hi (by omega), inB_hi (by omega)]
    rfl
theorem span_dig : Span (fun r => inB r 48 57) digB := by
  refine span_of _ _ (fun _ => rfl) (fun r h => ?_) (fun c h => ?_)
  · rw [show digB 128 = false from by decide]
    show inB r 48 57 = false
    rw [inB_hi (by omega)]
  · rw [show digB 128 = false from by decide, digB, inB_hi (by omega)]
theorem noNL_byte (c : UInt8) : ((c.toNat : Int) != 10) = noNL c := by
  unfold noNL
  rw [Bool.eq_iff_iff, bne_iff_ne, bne_iff_ne]
  constructor
  · intro h e
    subst e
    exact h rfl
  · intro h e
    have : c.toNat = 10 := by omega
    exact h (UInt8.toNat_inj.1 (by simpa using this))
theorem span_nl : Span (fun r => r != 10) noNL := by
  refine span_of _ _ noNL_byte (fun r h => ?_) (fun c h => ?_)
  · rw [show noNL 128 = true from by decide]
    show ((r : Int) != 10) = true
    rw [bne_iff_ne]; omega
  · rw [show noNL 128 = true from by decide]
    rw [← noNL_byte, bne_iff_ne]; omega

set_option maxHeartbeats 400000 in
theorem runLod_any (s : ByteArray) (w : World) (hs : s.size ≤ maxLen) :
    Calls Try.prog 23 #[.string s, .func (.func 44) #[] #[]] w fun e w' => e = .returned (.int .i64 ((s.data.toList.takeWhile lodB).length : Nat)) ∧ Below w.heap.size w w' := by
  unfold maxLen at hs
  go_enter Try.func23, Try.ntmps23
  go_wp2
  go_loopw [] (fun wr => ∃ pos : Nat, wr.heap[w.heap.size]? = some (.stringIter s pos) ∧ Below w.heap.size w wr ∧ pos ≤ s.size ∧ (∀ i, i < pos → lodB (s.data.toList.getD i 0) = true)) (fun wr => s.size - wr.iterPos w.heap.size)
  case atStart =>
    exact ⟨0, World.iter_heap w s 0, (Below.refl _ w).alloc (Nat.le_refl _) _, by omega, by omega⟩
  case round =>
    obtain ⟨pos, hit, hbw, hpos, hall⟩ := hrel
    have HN := hide hall
    clear hall
    by_cases hp : pos < s.size
    · obtain ⟨r, d, hdec, hPp, hd1, hrest⟩ := span_lod s pos hp
      have hnx : ∀ ty, (Instr.next (.pointer (some ⟨w.heap.size, 0, none⟩)) true ty).run Try.prog wr = _ := fun ty => next_eq wr w.heap.size s pos r d ty hit hp hdec
      have HP := hide hPp
      have HR := hide hrest
      have hit2 := hide (Lib.iterAt_heap wr w.heap.size s pos (pos + d) hit)
      have hbw2 := hide (Lib.below_iterAt hbw (k := w.heap.size) (Nat.le_refl _) s (pos + d))
      clear hPp hrest hdec
      cases hl : lodB (s.data.toList.getD pos 0)
      · have HL := hide hl
        clear hl
        go_wp2_with fail
        refine (isLetterOrDigit_any _ _).mono ?_
        rintro e w' ⟨rfl, rfl⟩
        rw [show letB (r : Int) = false from HP.out.trans HL.out]
        go_wp2
        go_ret
        refine ⟨?_, hbw2.out⟩
        rw [takeWhile_len lodB s.data.toList pos (by rw [data_length]; omega) HN.out (Or.inr HL.out)]
        rfl
      · have HL := hide hl
        clear hl
        go_wp2_with fail
        refine (isLetterOrDigit_any _ _).mono ?_
        rintro e w' ⟨rfl, rfl⟩
        rw [show letB (r : Int) = true from HP.out.trans HL.out]
        go_wp2
        go_roundw
        case rel =>
          refine ⟨pos + d, hit2.out, hbw2.out, (HR.out HL.out).1, fun i hi => ?_⟩
          by_cases hip : i < pos
          · exact HN.out i hip
          · exact (HR.out HL.out).2 i (by omega) hi
        case measure =>
          have hh := (HR.out HL.out).1
          rw [iterPos_at _ _ s _ hit2.out, iterPos_at _ _ s _ hit]
          omega
    · have hnx : ∀ ty, (Instr.next (.pointer (some ⟨w.heap.size, 0, none⟩)) true ty).run Try.prog wr = _ := fun ty => Lib.run_next_end_at wr w.heap.size s pos ty hit hp
      have hbw2 := hide hbw
      clear hbw
      go_wp2
      go_ret
      refine ⟨?_, hbw2.out⟩
      rw [takeWhile_len lodB s.data.toList pos (by rw [data_length]; omega) HN.out (Or.inl (by rw [data_length]; omega))]
      rw [show pos = s.size from by omega]
      rfl

set_option maxHeartbeats 400000 in
theorem runDig_any (s : ByteArray) (w : World) (hs : s.size ≤ maxLen) :
    Calls Try.prog 23 #[.string s, .func (.func 46) #[] #[]] w fun e w' => e = .returned (.int .i64 ((s.data.toList.takeWhile digB).length : Nat)) ∧ Below w.heap.size w w' := by
  unfold maxLen at hs
  go_enter Try.func23, Try.ntmps23
  go_wp2
  go_loopw [] (fun wr => ∃ pos : Nat, wr.heap[w.heap.size]? = some (.stringIter s pos) ∧ Below w.heap.size w wr ∧ pos ≤ s.size ∧ (∀ i, i < pos → digB (s.data.toList.getD i 0) = true)) (fun wr => s.size - wr.iterPos w.heap.size)
  case atStart =>
    exact ⟨0, World.iter_heap w s 0, (Below.refl _ w).alloc (Nat.le_refl _) _, by omega, by omega⟩
  case round =>
    obtain ⟨pos, hit, hbw, hpos, hall⟩ := hrel
    have HN := hide hall
    clear hall
    by_cases hp : pos < s.size
    · obtain ⟨r, d, hdec, hPp, hd1, hrest⟩ := span_dig s pos hp
      have hnx : ∀ ty, (Instr.next (.pointer (some ⟨w.heap.size, 0, none⟩)) true ty).run Try.prog wr = _ := fun ty => next_eq wr w.heap.size s pos r d ty hit hp hdec
      have HP := hide hPp
      have HR := hide hrest
      have hit2 := hide (Lib.iterAt_heap wr w.heap.size s pos (pos + d) hit)
      have hbw2 := hide (Lib.below_iterAt hbw (k := w.heap.size) (Nat.le_refl _) s (pos + d))
      clear hPp hrest hdec
      cases hl : digB (s.data.toList.getD pos 0)
      · have HL := hide hl
        clear hl
        go_wp2_with fail
        refine (isDigit_any _ _).mono ?_
        rintro e w' ⟨rfl, rfl⟩
        rw [show inB (r : Int) 48 57 = false from HP.out.trans HL.out]
        go_wp2
        go_ret
        refine ⟨?_, hbw2.out⟩
        rw [takeWhile_len digB s.data.toList pos (by rw [data_length]; omega) HN.out (Or.inr HL.out)]
        rfl
      · have HL := hide hl
        clear hl
        go_wp2_with fail
        refine (isDigit_any _ _).mono ?_
        rintro e w' ⟨rfl, rfl⟩
        rw [show inB (r : Int) 48 57 = true from HP.out.trans HL.out]
        go_wp2
        go_roundw
        case rel =>
          refine ⟨pos + d, hit2.out, hbw2.out, (HR.out HL.out).1, fun i hi => ?_⟩
          by_cases hip : i < pos
          · exact HN.out i hip
          · exact (HR.out HL.out).2 i (by omega) hi
        case measure =>
          have hh := (HR.out HL.out).1
          rw [iterPos_at _ _ s _ hit2.out, iterPos_at _ _ s _ hit]
          omega
    · have hnx : ∀ ty, (Instr.next (.pointer (some ⟨w.heap.size, 0, none⟩)) true ty).run Try.prog wr = _ := fun ty => Lib.run_next_end_at wr w.heap.size s pos ty hit hp
      have hbw2 := hide hbw
      clear hbw
      go_wp2
      go_ret
      refine ⟨?_, hbw2.out⟩
      rw [takeWhile_len digB s.data.toList pos (by rw [data_length]; omega) HN.out (Or.inl (by rw [data_length]; omega))]
      rw [show pos = s.size from by omega]
      rfl

set_option maxHeartbeats 400000 in
theorem runNl_any (s : ByteArray) (w : World) (hs : s.size ≤ maxLen) :
    Calls Try.prog 23 #[.string s, .func (.func 24) #[] #[]] w fun e w' => e = .returned (.int .i64 ((s.data.toList.takeWhile noNL).length : Nat)) ∧ Below w.heap.size w w' := by
  unfold maxLen at hs
  go_enter Try.func23, Try.ntmps23
  go_wp2
  go_loopw [] (fun wr => ∃ pos : Nat, wr.heap[w.heap.size]? = some (.stringIter s pos) ∧ Below w.heap.size w wr ∧ pos ≤ s.size ∧ (∀ i, i < pos → noNL (s.data.toList.getD i 0) = true)) (fun wr => s.size - wr.iterPos w.heap.size)
  case atStart =>
    exact ⟨0, World.iter_heap w s 0, (Below.refl _ w).alloc (Nat.le_refl _) _, by omega, by omega⟩
  case round =>
    obtain ⟨pos, hit, hbw, hpos, hall⟩ := hrel
    have HN := hide hall
    clear hall
    by_cases hp : pos < s.size
    · obtain ⟨r, d, hdec, hPp, hd1, hrest⟩ := span_nl s pos hp
      have hnx : ∀ ty, (Instr.next (.pointer (some ⟨w.heap.size, 0, none⟩)) true ty).run Try.prog wr = _ := fun ty => next_eq wr w.heap.size s pos r d ty hit hp hdec
      have HP := hide hPp
      have HR := hide hrest
      have hit2 := hide (Lib.iterAt_heap wr w.heap.size s pos (pos + d) hit)
      have hbw2 := hide (Lib.below_iterAt hbw (k := w.heap.size) (Nat.le_refl _) s (pos + d))
      clear hPp hrest hdec
      cases hl : noNL (s.data.toList.getD pos 0)
      · have HL := hide hl
        clear hl
        go_wp2_with fail
        refine (isNoLineEnd_any _ _).mono ?_
        rintro e w' ⟨rfl, rfl⟩
        rw [show ((r : Int) != 10) = false from HP.out.trans HL.out]
        go_wp2
        go_ret
        refine ⟨?_, hbw2.out⟩
        rw [takeWhile_len noNL s.data.toList pos (by rw [data_length]; omega) HN.out (Or.inr HL.out)]
        rfl
      · have HL := hide hl
        clear hl
        go_wp2_with fail
        refine (isNoLineEnd_any _ _).mono ?_
        rintro e w' ⟨rfl, rfl⟩
        rw [show ((r : Int) != 10) = true from HP.out.trans HL.out]
        go_wp2
        go_roundw
        case rel =>
          refine ⟨pos + d, hit2.out, hbw2.out, (HR.out HL.out).1, fun i hi => ?_⟩
          by_cases hip : i < pos
          · exact HN.out i hip
          · exact (HR.out HL.out).2 i (by omega) hi
        case measure =>
          have hh := (HR.out HL.out).1
          rw [iterPos_at _ _ s _ hit2.out, iterPos_at _ _ s _ hit]
          omega
    · have hnx : ∀ ty, (Instr.next (.pointer (some ⟨w.heap.size, 0, none⟩)) true ty).run Try.prog wr = _ := fun ty => Lib.run_next_end_at wr w.heap.size s pos ty hit hp
      have hbw2 := hide hbw
      clear hbw
      go_wp2
      go_ret
      refine ⟨?_, hbw2.out⟩
      rw [takeWhile_len noNL s.data.toList pos (by rw [data_length]; omega) HN.out (Or.inl (by rw [data_length]; omega))]
      rw [show pos = s.size from by omega]
      rfl
end Go.Proofs.Ytndlhdeipicbpaa
