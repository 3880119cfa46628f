/- slices.Values over a list of one list. -/
import Derived.Test.YtgeckgdmkjddpaaQ16
namespace Go.Proofs.Ytgeckgdmkjddpaa.Hd
open Go.ChangeShapes Go.WideShapes Go.ChangeAt Go.RowKit Go.Shelf Go.Proofs.Ytgeckgdmkjddpaa.It Go.Proofs.Ytgeckgdmkjddpaa.Vo Go.Proofs.Ytgeckgdmkjddpaa.Br
attribute [local go_sem] Oper.semAt_some
set_option linter.unusedVariables false

set_option maxRecDepth 100000 in
set_option maxHeartbeats 4000000 in
theorem values_of (w : World) (root : Ls) (Bs j : Nat) (hBl : Bs < w.heap.size) (hBs : w.cell? ⟨Bs, 0, none⟩ = some (.slice (some ⟨j, 0, none⟩) 1 1)) (hjl : j < w.heap.size) (hj : w.cell? ⟨j, 0, none⟩ = some (valL root)) :
    SeqOf Try.prog 72 #[.pointer (some ⟨Bs, 0, none⟩)] (fun x => #[valL x]) (fun k => k = j ∨ k = Bs) (fun pre y => pre ++ [y] <+: [root]) (fun ys => ys = [root]) w := by
  intro n9 l J Jx W hW hJ hY h0
  have hbB : W.cell? ⟨Bs, 0, none⟩ = some (.slice (some ⟨j, 0, none⟩) 1 1) := (hW.cell (p := ⟨Bs, 0, none⟩) hBl).trans hBs
  have hbj : W.cell? ⟨j, 0, none⟩ = some (.iface (tyOf root.i) (.slice root.o root.n root.c)) := (hW.cell (p := ⟨j, 0, none⟩) hjl).trans hj
  have hjW : j < W.heap.size := Nat.lt_of_lt_of_le hjl hW.size
  have hBW : Bs < W.heap.size := Nat.lt_of_lt_of_le hBl hW.size
  have HY : Hid (Yds l W.heap.size J Jx (fun pre y => pre ++ [y] <+: [root])) := fun m pre x Pr W1 h1 h2 h3 h4 => hY m pre x Pr W1 h1 h2 h3 h4
  have HJ := hide hJ
  have HH0 := hide h0
  clear hY hJ h0 hBs hj hjl hBl hW
  refine callsIn_of_wp Try.func72 rfl trivial ?_ rfl
  simp only [Try.ntmps72, List.size_toArray, List.length_cons, List.length_nil, Nat.reduceAdd, Nat.reduceSub, Array.replicate_succ, Array.replicate_zero, List.push_toArray, List.append_toArray, List.nil_append, List.cons_append]
  gi_wp2
  clear hbB
  gi_loopw [7] (fun t7 wr => ∃ i : Nat, i ≤ 1 ∧ t7 = .int .i64 i ∧ J ([root].take i) (fun k => k = j ∨ k = Bs) wr ∧ KeptP (fun k => k = j ∨ k = Bs) W wr) (fun t7 _ => 1 - (intOf t7).toNat)
  case atStart => exact ⟨0, Nat.zero_le _, rfl, HH0.out, KeptP.refl _ _⟩
  case round =>
    obtain ⟨i, hi, rfl, hj, hk⟩ := hrel
    have HJI := hide hj
    have HKI := hide hk
    clear hj hk
    have hcase : i = 0 ∨ i = 1 := by omega
    rcases hcase with rfl | rfl
    · have q0 : wr.cell? ⟨j, 0, none⟩ = some (.iface (tyOf root.i) (.slice root.o root.n root.c)) := (World.cell?_of_block (a := ⟨j, 0, none⟩) (HKI.out.2 j (.inl rfl) hjW)).trans hbj
      have hNr : W.heap.size ≤ wr.heap.size := HKI.out.1
      obtain ⟨f9, t9, a9, d9, y9, r9⟩ := HY.out (n9 - 1) [] root _ wr HJI.out (List.prefix_rfl) hNr (fun k hk => by
        rcases hk with rfl | rfl
        · omega
        · omega)
      change (Instr.yield l #[.iface (tyOf root.i) (.slice root.o root.n root.c)]).run Try.prog _ = _ at y9
      have R9 := hide r9
      clear r9 hbj
      gi_wp2
      refine ⟨(fun h => by cases h), R9.out.mono ?_⟩
      rintro e V2 (⟨rfl, j2, k2⟩ | ⟨rfl, x2⟩)
      · have HJ2 := hide j2
        have HK2 := hide k2
        clear j2 k2 y9 R9
        gi_wp2
        go_roundw
        case rel => exact ⟨1, Nat.le_refl _, by simp, HJ2.out, HKI.out.trans HK2.out⟩
        case measure => simp [intOf]
      · have HX2 := hide x2
        clear x2 y9 R9
        gi_wp2
        refine bodyPost_ret (results_none rfl _ _ _) rfl ?_
        exact ⟨⟨_, rfl⟩, .inr ⟨_, HX2.out⟩⟩
    · gi_wp2
      go_end0
      exact ⟨⟨_, rfl⟩, .inl ⟨_, rfl, HJI.out⟩⟩
set_option maxHeartbeats 1000000 in
theorem valuesF (o : Option Addr) (n c : Nat) (w : World) :
    Calls Try.prog 53 #[.slice o n c] w fun e w' => e = .returned (.func (.func 72) #[] #[.pointer (some ⟨w.heap.size, 0, none⟩)]) ∧ w' = w.alloc (.cells #[.slice o n c] 104) := by
  go_enter Try.func53, Try.ntmps53
  go_wp2
  go_ret
  exact ⟨rfl, rfl⟩
end Go.Proofs.Ytgeckgdmkjddpaa.Hd
