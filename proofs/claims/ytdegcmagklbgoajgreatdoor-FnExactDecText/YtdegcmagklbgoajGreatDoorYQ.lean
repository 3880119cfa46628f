/- DecsOk, both sides. -/
import Derived.Test.YtdegcmagklbgoajGreatDoorYP
namespace Go.Proofs.YtdegcmagklbgoajGreatDoor
open Go.ChangeShapes Go.WideShapes Go.ChangeAt Go.RowKit

/-- A measure that tells a count and whether all is right, held against 200. -/
theorem trk_bool {r : Int} {ok : Bool} {n : Nat} (h : Trk r ok n) : decide (r ≤ 200) = (ok && decide (n ≤ 200)) := by
  rcases h with ⟨h1, h2, h3⟩ | ⟨h1, h2⟩
  · rw [h1, decide_eq_true (show n ≤ 200 from h2), decide_eq_true (by omega)]
    rfl
  · rw [decide_eq_false (by omega)]
    symm
    rw [Bool.and_eq_false_iff]
    cases ok with
    | false => exact Or.inl rfl
    | true => exact Or.inr (decide_eq_false fun hc => h2 ⟨rfl, hc⟩)


/-- A row that can be read lies in blocks that are there. -/
theorem row_old {w : World} {g h : Nat} {xs : List Tr} {o : Option Addr} (hg : w.heap.size ≤ g) (hm : RowOf AllK w (reads AllK w h).de 9 o xs) : RowOf (NeK g) w (reads (NeK g) w h).de 9 o xs := by
  intro hne
  obtain ⟨b, off, e, -, hl, hc⟩ := hm hne
  refine ⟨b, off, e, (by show b ≠ g; omega), hl, fun i x hx => ?_⟩
  obtain ⟨cs, h1, h2, h3⟩ := hc i x hx
  exact ⟨cs, h1, h2, ((reads_old hg h).2.1) _ _ h3⟩

set_option maxHeartbeats 400000 in
theorem implDecsOk_any {w : World} {h : Nat} {xs : List Tr} {o : Option Addr} {c : Nat} (hm : RowOf AllK w (reads AllK w h).de 9 o xs) (hl : xs.length ≤ maxLen) :
    Calls Tryz.prog 67 #[.slice o xs.length c] w fun e w' => e = .returned (.bool (decsB (okz h).de xs 6 0 && decide (sumZ (cnt h).de xs ≤ 200))) ∧ Below w.heap.size w w' := by
  have HB1 : Hid (Below w.heap.size w (w.alloc (.cells #[.int .i64 0] 133))) := (Below.refl _ w).alloc (Nat.le_refl _) _
  have HC1 : Hid (Ctr (w.alloc (.cells #[.int .i64 0] 133)) w.heap.size ((0 : Nat) : Int)) := heap_alloc_new w _
  have HM := hide ((row_old (g := w.heap.size) (Nat.le_refl _) hm).later HB1.out (reads_later HB1.out h).2.1)
  have HL := hide hl
  clear hm hl
  go_enter Tryz.func67, Tryz.ntmps67
  go_wp2_with fail
  refine ((ch_all h).2.2.2.1 xs o c _ w.heap.size 0 6 0 HM.out HL.out HC1.out (by omega) (by omega) (by omega) (by omega) (by omega)).mono ?_
  rintro e w1 ⟨n', rfl, hc, hn, hk⟩
  have HB2 : Hid (Below w.heap.size w w1) := by
    have h2 := hk.mono (B' := w.heap.size) HB1.out.size
    exact HB1.out.trans ⟨h2.os, h2.tape, h2.output, h2.size, fun k hk => h2.block k hk (by omega)⟩
  clear hc hn hk
  go_wp2
  go_ret
  exact ⟨ret_bool (by first | rfl | rw [Nat.zero_add]), HB2.out⟩
end Go.Proofs.YtdegcmagklbgoajGreatDoor
