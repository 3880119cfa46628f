/- The program's DataOf. -/
import Derived.Test.YtlaeenfeajkcfalAC
import Derived.Test.YtlaeenfeajkcfalShelf
namespace Go.Proofs.Ytlaeenfeajkcfal.Kn
open Go.ChangeShapes Go.WideShapes Go.ChangeAt Go.RowKit

theorem fieldM (s : ByteArray) (n : Int) (w : World) : (Instr.field 56 (.agg #[.string s, .int .i64 n]) 0).run Try.prog w = .ok (.string s) w := by
  simp [Instr.field, run_underlying Try.underlying56, part, isAgg, asAgg, run_underlying Try.underlying9]
theorem clone_any (s : ByteArray) (w : World) (hs : s.size ≤ 1048576) :
    Calls Try.prog 19 #[.string s] w fun e w' => e = .returned (.string s) ∧ Below w.heap.size w w' := by
  go_enter Try.func19, Try.ntmps19
  go_wp2_with fail
  refine (Try.stringslite_Clone _ _ (by omega)).mono ?_
  rintro e w1 ⟨rfl, hb⟩
  have HB := hide hb
  clear hb
  go_wp2
  go_ret
  exact ⟨rfl, HB.out⟩
theorem le_sum_in {f : Tr → Nat} : ∀ {l : List Tr} {y : Tr}, y ∈ l → f y ≤ (l.map f).sum := by
  intro l
  induction l with
  | nil => intro y h; cases h
  | cons a r ih =>
    intro y h
    rw [List.map_cons, List.sum_cons]
    rcases List.mem_cons.1 h with e | h
    · rw [e]; omega
    · have := ih h; omega
theorem data_size {h : Nat} {x : Tr} (hw : wpr h x ≤ 1048576) {g : ByteArray} {p : Mk} (hf : findM (given ++ consM x.l) g = some p) : p.2.1.size ≤ 1048576 := by
  have hm := List.mem_of_find?_eq_some hf
  rcases List.mem_append.1 hm with hm | hm
  · unfold given at hm
    rcases List.mem_cons.1 hm with e | hm
    · rw [e]; decide
    · rw [List.mem_singleton.1 hm]; decide
  · unfold consM at hm
    obtain ⟨y, hy, hs⟩ := List.mem_flatMap.1 hm
    obtain ⟨z, hz, rfl⟩ := List.mem_map.1 hs
    have h1 : wda h y ≤ (x.l.map (wda h)).sum := le_sum_in hy
    unfold wpr lw at hw
    have h2 : y.s.size ≤ wda h y := by unfold wda; omega
    show y.s.size ≤ _
    omega
set_option maxHeartbeats 1000000 in
set_option maxRecDepth 100000 in
theorem implDataOf_any {K : Nat → Prop} {w : World} {h : Nat} {x : Tr} {cs : List Value} (hr : prR K w h x cs) (hw : wpr h x ≤ 1048576) (g : ByteArray) :
    Calls Try.prog 8 #[.agg cs.toArray, .string g] w fun e w' => e = .returned (.string (dataZ x.l g)) ∧ Below w.heap.size w w' := by
  have hr0 := hr
  have HSZ := hide fun p => data_size hw (g := g) (p := p)
  obtain ⟨o1, c1, o2, c2, rfl⟩ := pr_form hr
  have HB0 : Hid (Below w.heap.size w (w.alloc (.cells #[.slice o1 x.l.length c1, .slice o2 x.ds.length c2] 31))) := (Below.refl _ w).alloc (Nat.le_refl _) _
  have HR := hide (prR_later HB0.out h _ _ hr0)
  clear hr hr0 hw
  go_enter Try.func8, Try.ntmps8
  go_wp2_with fail
  refine (makersOf_any HR.out).mono ?_
  rintro e w1 ⟨m, rfl, hmg, hm, hb⟩
  have hl1 := hm.look1 g (-1)
  have hfm := fieldM
  have HB1 := hide (HB0.out.trans (hb.mono HB0.out.size))
  rw [look_un, find_made] at hl1
  clear hm hb
  cases hf : findM (given ++ consM x.l) g with
  | none =>
    have HF : Hid (dataZ x.l g = ⟨#[]⟩) := by show dataZ x.l g = ⟨#[]⟩; unfold dataZ; rw [hf]
    rw [hf] at hl1
    simp only [Option.map_none, Option.getD_none, prV] at hl1
    clear hf
    go_wp2_with fail
    refine (clone_any ⟨#[]⟩ _ (by decide)).mono ?_
    rintro e w2 ⟨rfl, hb⟩
    have HB2 := hide hb
    clear hb
    go_wp2
    go_ret
    exact ⟨retS HF.out.symm, HB1.out.trans (HB2.out.mono HB1.out.size)⟩
  | some p =>
    have HS := hide (HSZ.out p hf)
    obtain ⟨p1, p2, p3⟩ := p
    have HF : Hid (dataZ x.l g = p2) := by show dataZ x.l g = p2; unfold dataZ; rw [hf]
    rw [hf] at hl1
    simp only [Option.map_some, Option.getD_some, prV] at hl1
    clear hf
    go_wp2_with fail
    refine (clone_any p2 _ HS.out).mono ?_
    rintro e w2 ⟨rfl, hb⟩
    have HB2 := hide hb
    clear hb
    go_wp2
    go_ret
    exact ⟨retS HF.out.symm, HB1.out.trans (HB2.out.mono HB1.out.size)⟩
end Go.Proofs.Ytlaeenfeajkcfal.Kn
