/- The library's Grow, Concat, Sort at rows of names; the program's sorted, namesOfDecs. -/
import Derived.Test.YtlaeenfeajkcfalGreatSB
import Derived.Test.YtlaeenfeajkcfalGreatShelf
import Derived.Sort.OwnSorted
namespace Go.Proofs.YtlaeenfeajkcfalGreat.Nm
open Go.ChangeShapes Go.WideShapes Go.ChangeAt Go.RowKit Go.Sort

theorem enc_str (s : ByteArray) : encStr s.toList = .string s := by
  unfold encStr
  rw [ByteArray.toList_eq]
theorem enc_map (l : List ByteArray) : (l.map ByteArray.toList).map encStr = l.map Value.string := by
  rw [List.map_map]
  exact List.map_congr_left fun s _ => enc_str s
set_option maxHeartbeats 1000000 in
set_option maxRecDepth 100000 in
theorem grow_any (n : Nat) (w : World) (hn : n ≤ 100000000) : Calls Tryz.prog 156 #[.slice none 0 0, .int .i64 (n : Int)] w fun e w' => ∃ v, e = .returned v ∧ NRow w.heap.size w' v [] ∧ Below w.heap.size w w' := by
  have hneg : ¬ ((n : Int) < 0) := by omega
  by_cases h0 : n = 0
  · subst h0
    go_enter Tryz.func156, Tryz.ntmps156
    go_wp2
    go_ret
    exact ⟨_, rfl, ⟨World.ownsRow_nil _ _ _ _, fun s hs => (by cases hs), Nat.zero_le _⟩, Below.refl _ _⟩
  · obtain ⟨i0, hi, hz0, hz1, hz2⟩ := info_parts str_info
    have hr := Lib.run_append_nil_zeros (P := Tryz.prog) w 38 3 38 9 i0 _ .i64 .i64 Tryz.underlying38 Tryz.underlying3 hi hz0 n (by omega) (by omega) (by omega) (by rw [hz2]; omega)
    have hge := grownCap_ge w n 0 9
    have hcm : grownCap w n 0 9 ≤ maxLen := grownCap_le_maxLen w n 0 9 (by unfold maxLen; omega)
    have hsz : (Builtin.zeroCells (Value.string ⟨#[]⟩).cells n ++ Builtin.zeroCells (Value.string ⟨#[]⟩).cells (grownCap w n 0 9 - n)).size = grownCap w n 0 9 * 1 := by
      rw [Array.size_append, size_zeroCells, size_zeroCells]
      have e1 : (Value.string ⟨#[]⟩).cells.size = 1 := rfl
      rw [e1]
      omega
    generalize hC : grownCap w n 0 9 = C at hr hge hcm hsz
    generalize hZ : Builtin.zeroCells (Value.string ⟨#[]⟩).cells n ++ Builtin.zeroCells (Value.string ⟨#[]⟩).cells (C - n) = Z at hr hsz
    have HR := hide hr
    have hcm2 : C ≤ 9223372036854775807 := hcm
    have HF : Hid (NRow w.heap.size (w.drew.alloc (.cells Z 9)) (.slice (some ⟨w.heap.size, 0, none⟩) 0 C) []) := by
      refine ⟨⟨by simp, Or.inr ⟨w.heap.size, C, Z, rfl, Nat.le_refl _, heap_alloc_new w.drew _, Nat.zero_le _, hcm, hsz, by simp⟩⟩, fun s hs => (by cases hs), Nat.zero_le _⟩
    have HB : Hid (Below w.heap.size w (w.drew.alloc (.cells Z 9))) := (Below.refl _ w).drew.alloc (Nat.le_refl _) _
    have hpos : (0 : Int) < (n : Int) := by omega
    clear hr hC hZ hsz hcm
    go_enter Tryz.func156, Tryz.ntmps156
    go_wp2_with (at_builtin; refine Lib.wpList_append_run _ rfl _ _ _ _ rfl _ _ rfl rfl _ _ HR.out ?_)
    go_ret
    exact ⟨_, rfl, HF.out, HB.out⟩
def slR (w : World) (l : List ByteArray) (cs : List Value) : Prop := ∃ o c, cs = [.slice o l.length c] ∧ l.length ≤ maxLen ∧ RowOf (fun _ => True) w strR 1 o l
theorem sum_succ (ls : List (List ByteArray)) (i : Nat) (hi : i < ls.length) : ((ls.take (i + 1)).map List.length).sum = ((ls.take i).map List.length).sum + ls[i].length := by
  rw [List.take_succ_eq_append_getElem hi, List.map_append, List.sum_append]
  simp
theorem sum_le (ls : List (List ByteArray)) : ∀ i, ((ls.take i).map List.length).sum ≤ (ls.map List.length).sum := by
  induction ls with
  | nil => intro i; simp
  | cons x r ih =>
    intro i
    cases i with
    | zero => simp
    | succ i =>
      have := ih i
      simp only [List.take_succ_cons, List.map_cons, List.sum_cons]
      omega
theorem de_size {K : Nat → Prop} {w : World} {h : Nat} {d : Tr} {cs : List Value} (hr : (reads K w h).de d cs) : d.s.size ≤ maxLen := by
  cases h with
  | zero => exact hr.elim
  | succ h =>
    obtain ⟨-, -, -, e, o1, c1, ce, o2, c2, -, -, h2, -⟩ := hr
    exact h2
end Go.Proofs.YtlaeenfeajkcfalGreat.Nm
