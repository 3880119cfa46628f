/- The model's ExpText and DecText, whole. -/
import Derived.Test.YteoghpefilghdakGreatDoorGD
import Derived.Test.YteoghpefilghdakGreatDoorYE
namespace Go.Proofs.YteoghpefilghdakGreatDoor
open Go.ChangeShapes Go.WideShapes Go.ChangeAt Go.RowKit

theorem sp_step {h : Nat} (hA : SpAt h) (hDs : SpDs h) (hAs : SpAs h) : SpEx (h + 1) := by
  intro K x cs w n d hr hok hn hc
  obtain ⟨O, hh, hd6⟩ := ok_of hok
  rcases ok_kinds hh with ⟨k, -⟩ | ⟨k, -⟩ | ⟨k, h0, h1, -⟩ | ⟨k, -, -, ⟨a, b, hl⟩, -⟩ | ⟨k, hs, -, ⟨a, hl⟩, -⟩ | ⟨k, -, -, ⟨a, hl⟩, -⟩ | ⟨k, -, -, ⟨a, hl⟩, -, hal⟩ | ⟨k, -, -, ⟨a, b, c, hl⟩, -⟩ | ⟨k, hs, -, ⟨a, b, hl⟩, -⟩
  · exact bare_1 hr k
  · exact bare_2 hr k
  · exact bare_3 hr k h0 h1
  · exact bare_4 hA hDs hAs hr hok hn hc k hl
  · refine bare_5 hA hDs hAs hr hok hn hc k hl ?_
    rw [Bool.or_eq_true] at hs
    rcases hs with hs | hs
    · exact (nm_size hs).1
    · rw [u_size hs]; omega
  · refine bare_6 hA hDs hAs hr hok hn hc k hl ?_
    obtain ⟨-, o1, c1, o2, c2, o3, c3, -, -, -, -, -, -, r2, -⟩ := hr
    obtain ⟨hd1, hdo⟩ := decs_of (hd6.resolve_left fun hc => hc k)
    obtain ⟨y, hy⟩ : ∃ y, y ∈ x.ds := by
      cases hds : x.ds with
      | nil => rw [hds] at hd1; simp at hd1
      | cons y r => exact ⟨y, by simp⟩
    obtain ⟨cs, hc⟩ := row_mem r2 hy
    have := de_deep hc (hdo y hy)
    omega
  · refine bare_7 hA hDs hAs hr hok hn hc k hl ?_
    unfold inB at hal
    simp at hal
    omega
  · exact bare_8 hA hDs hAs hr hok hn hc k hl
  · have h3 := opLev_le x.s
    have hz := op_size hs
    rcases (show opLev x.s = 1 ∨ opLev x.s = 2 ∨ opLev x.s = 3 by omega) with h | h | h
    · exact bare_9_1 hA hDs hAs hr hok hn hc k hl hz h
    · exact bare_9_2 hA hDs hAs hr hok hn hc k hl hz h
    · exact bare_9_3 hA hDs hAs hr hok hn hc k hl hz h
theorem sp_all (h : Nat) : SpEx h ∧ SpDe h ∧ SpDs h ∧ SpAs h := by
  induction h with
  | zero =>
    refine ⟨fun _ _ _ _ _ _ hr => hr.elim, fun _ _ _ _ _ _ hr => hr.elim, decs_of_dec fun _ _ _ _ _ _ hr => hr.elim, ?_⟩
    intro K xs o c w n d hm hl h1
    exfalso
    cases xs with
    | nil => simp at h1
    | cons x r =>
      obtain ⟨_, hf⟩ := row_mem hm (List.mem_cons_self ..)
      exact hf.elim
  | succ h ih =>
    obtain ⟨i1, i2, i3, i4⟩ := ih
    have hA := at_of i1
    have hD := dec_of hA i3
    exact ⟨sp_step hA i3 i4, hD, decs_of_dec hD, alts_of hA⟩

def expT (h : Nat) (x : Tr) (n : Int) : List UInt8 := if (((okz h).ex x 1 && decide ((cnt h).ex x ≤ 200)) && inB n 0 60) = true then (txt h).ex x n.toNat else []
end Go.Proofs.YteoghpefilghdakGreatDoor
