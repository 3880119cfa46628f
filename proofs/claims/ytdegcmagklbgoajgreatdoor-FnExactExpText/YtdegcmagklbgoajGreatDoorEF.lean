/- The model's ExpText and DecText, whole. -/
import Derived.Test.YtdegcmagklbgoajGreatDoorGD
import Derived.Test.YtdegcmagklbgoajGreatDoorYE
namespace Go.Proofs.YtdegcmagklbgoajGreatDoor
open Go.ChangeShapes Go.WideShapes Go.ChangeAt Go.RowKit

theorem sp_step {h : Nat} (hA : SpAt h) (hDs : SpDs h) (hAs : SpAs h) : SpEx (h + 1) := by
  intro K x cs w n d hr hok hn hc
  obtain ⟨O, hh, hd6⟩ := ok_of hok
  rcases ok_kinds hh with ⟨k, -⟩ | ⟨k, -⟩ | ⟨k, h0, h1, -⟩ | ⟨k, -, -, ⟨a, b, hl⟩, -⟩ | ⟨k, hs, -, ⟨a, hl⟩, -⟩ | ⟨k, -, -, ⟨a, hl⟩, -⟩ | ⟨k, -, -, ⟨a, hl⟩, -, hal⟩ | ⟨k, -, -, ⟨a, b, c, hl⟩, -⟩ | ⟨k, hs, -, ⟨a, b, hl⟩, -⟩
  · exact bare_1 hr k
  · exact bare_2 hr k
  · exact bare_3 hr k h0 h1
  · exact bare_4 hA hDs hAs hr hok hn hc k hl
  · refine bare_5 hA hDs hAs hr hok hn hc k hl ?_
    rw [Bool.or_eq_true] at hs
    rcases hs with hs | hs
    · exact (nm_size hs).1
    · rw [u_size hs]; omega
  · refine bare_6 hA hDs hAs hr hok hn hc k hl ?_
    obtain ⟨-, o1, c1, o2, c2, o3, c3, -, -, -, -, -, -, r2, -⟩ := hr
    obtain ⟨hd1, hdo⟩ := decs_of (hd6.resolve_left fun hc => hc k)
    obtain ⟨y, hy⟩ : ∃ y, y ∈ x.ds := by
      cases hds : x.ds with
      | nil => rw [hds] at hd1; simp at hd1
      | cons y r => exact ⟨y, by simp⟩
    obtain ⟨cs, hc⟩ := row_mem r2 hy
    have := de_deep hc (hdo y hy)
    omega
  · refine bare_7 hA hDs hAs hr hok hn hc k hl ?_
    unfold inB at hal
    simp at hal
    omega
  · exact bare_8 hA hDs hAs hr hok hn hc k hl
  · have h3 := opLev_le x.s
    have hz := op_size hs
    rcases (show opLev x.s = 1 ∨ opLev x.s = 2 ∨ opLev x.s = 3 by omega) with h | h | h
    · exact bare_9_1 hA hDs hAs hr hok hn hc k hl hz h
    · exact bare_9_2 hA hDs hAs hr hok hn hc k hl hz h
    · exact bare_9_3 hA hDs hAs hr hok hn hc k hl hz h
theorem sp_all (h : Nat) : SpEx h ∧ SpDe h ∧ SpDs h ∧ SpAs h := by
  induction h with
  | zero =>
    refine ⟨fun _ _ _ _ _ _ hr => hr.elim, fun _ _ _ _ _ _ hr => hr.elim, decs_of_dec fun _ _ _ _ _ _ hr => hr.elim, ?_⟩
    intro K xs o c w n d hm hl h1
    exfalso
    cases xs with
    | nil => simp at h1
    | cons x r =>
      obtain ⟨_, hf⟩ := row_mem hm (List.mem_cons_self ..)
      exact hf.elim
  | succ h ih =>
    obtain ⟨i1, i2, i3, i4⟩ := ih
    have hA := at_of i1
    have hD := dec_of hA i3
    exact ⟨sp_step hA i3 i4, hD, decs_of_dec hD, alts_of hA⟩

def expT (h : Nat) (x : Tr) (n : Int) : List UInt8 := if (((okz h).ex x 1 && decide ((cnt h).ex x ≤ 200)) && inB n 0 60) = true then (txt h).ex x n.toNat else []
set_option maxHeartbeats 1000000 in
set_option maxRecDepth 100000 in
theorem specExpText_any {K : Nat → Prop} {w : World} {h : Nat} {x : Tr} {cs : List Value} {n : Int} (hr : (reads K w h).ex x cs) :
    Calls Tryz.prog 18 #[.agg cs.toArray, .int .i64 n] w fun e w' => e = .returned (.string (ofL (expT h x n))) ∧ Below w.heap.size w w' := by
  obtain ⟨o1, c1, o2, c2, o3, c3, rfl⟩ := ex_form hr
  have HR := hide hr
  clear hr
  have HB0 : Hid (Below w.heap.size w (w.alloc (.cells #[.int .i64 x.k, .string x.s, .int .i64 x.n, .slice o1 x.l.length c1, .slice o2 x.ds.length c2, .slice o3 x.al.length c3] 34))) := (Below.refl _ w).alloc (Nat.le_refl _) _
  have HX0 : Hid ((w.alloc (.cells #[.int .i64 x.k, .string x.s, .int .i64 x.n, .slice o1 x.l.length c1, .slice o2 x.ds.length c2, .slice o3 x.al.length c3] 34)).heap[w.heap.size]? = some (.cells #[.int .i64 x.k, .string x.s, .int .i64 x.n, .slice o1 x.l.length c1, .slice o2 x.ds.length c2, .slice o3 x.al.length c3] 34 (0, 0))) := heap_alloc_new w _
  cases hb : ((okz h).ex x 1 && decide ((cnt h).ex x ≤ 200))
  · have HBO := hide hb
    clear hb
    go_enter Tryz.func18, Tryz.ntmps18
    go_wp2_with fail
    refine (specExpOk_any ((reads_later HB0.out h).1 _ _ HR.out)).mono ?_
    rintro e w1 ⟨rfl, hb⟩
    rw [HBO.out]
    have HB1 := hide (HB0.out.trans (hb.mono HB0.out.size))
    clear hb
    go_wp2
    go_ret
    exact ⟨ret_str (by unfold expT; rw [HBO.out]; rfl), HB1.out⟩
  · have HBO := hide hb
    clear hb
    cases hi : inB n 0 60
    · have HI := hide hi
      clear hi
      go_enter Tryz.func18, Tryz.ntmps18
      go_wp2_with fail
      refine (specExpOk_any ((reads_later HB0.out h).1 _ _ HR.out)).mono ?_
      rintro e w1 ⟨rfl, hb⟩
      rw [HBO.out]
      have HB1 := hide (HB0.out.trans (hb.mono HB0.out.size))
      clear hb
      go_wp2_with fail
      refine (in_any _ _ _ _).mono ?_
      rintro e w2 ⟨rfl, rfl⟩
      rw [HI.out]
      go_wp2
      go_ret
      exact ⟨ret_str (by unfold expT; rw [HBO.out, HI.out]; rfl), HB1.out⟩
    · have hn0 : 0 ≤ n ∧ n ≤ 60 := by unfold inB at hi; simp at hi; omega
      have HI := hide hi
      clear hi
      obtain ⟨m, rfl⟩ : ∃ m : Nat, n = m := ⟨n.toNat, by omega⟩
      have hok : (okz h).ex x 1 = true ∧ (cnt h).ex x ≤ 200 := by
        have h1 := HBO.out
        rw [Bool.and_eq_true] at h1
        exact ⟨h1.1, of_decide_eq_true h1.2⟩
      go_enter Tryz.func18, Tryz.ntmps18
      go_wp2_with fail
      refine (specExpOk_any ((reads_later HB0.out h).1 _ _ HR.out)).mono ?_
      rintro e w1 ⟨rfl, hb⟩
      rw [HBO.out]
      have HB1 := hide (HB0.out.trans (hb.mono HB0.out.size))
      have HX1 := hide ((hb.block w.heap.size (heap_lt HX0.out)).trans HX0.out)
      clear hb
      go_wp2_with fail
      refine (in_any _ _ _ _).mono ?_
      rintro e w2 ⟨rfl, rfl⟩
      rw [HI.out]
      have x0 := cell_of HX1.out 0
      have x1 := cell_of HX1.out 1
      have x2 := cell_of HX1.out 2
      have x3 := cell_of HX1.out 3
      have x4 := cell_of HX1.out 4
      have x5 := cell_of HX1.out 5
      simp only [List.getElem?_toArray, List.getElem?_cons_succ, List.getElem?_cons_zero] at x0 x1 x2 x3 x4 x5
      go_wp2_with fail
      refine ((sp_all h).1 K x _ _ m 1 ((reads_later HB1.out h).1 _ _ HR.out) hok.1 (by omega) hok.2).mono ?_
      rintro e w3 ⟨rfl, hb⟩
      have HB3 := hide (HB1.out.trans (hb.mono HB1.out.size))
      clear hb
      go_wp2
      go_ret
      exact ⟨ret_str (by unfold expT; rw [HBO.out, HI.out]; rfl), HB3.out⟩
end Go.Proofs.YtdegcmagklbgoajGreatDoor
