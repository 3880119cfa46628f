/- The iterator over the lists that lie in a list of results. -/
import Derived.Test.YtifambhfggodaaaCU
import Derived.Test.YtifambhfggodaaaZVD
namespace Go.Proofs.Ytifambhfggodaaa.Rs
open Go.ChangeShapes Go.WideShapes Go.ChangeAt Go.RowKit Go.Shelf Go.Proofs.Ytifambhfggodaaa.It Go.Proofs.Ytifambhfggodaaa.Vo
attribute [local go_sem] Oper.semAt_some
set_option linter.unusedVariables false

def valR (x : Rl) : Value := .slice x.o x.n x.c
/-- What a round's yield does. -/
def Yds (l N : Nat) (J : List Rl → (Nat → Prop) → World → Prop) (Jx : List Rl → World → Prop) (ok : List Rl → Rl → Prop) : Prop :=
  ∀ m pre x Pr W1, J pre Pr W1 → ok pre x → N ≤ W1.heap.size → (∀ k, Pr k → k < W1.heap.size) → YieldAt Fence.wide m Try.prog l #[valR x] W1 fun e W' =>
    (e = .returned (.bool true) ∧ J (pre ++ [x]) Pr W' ∧ KeptP Pr W1 W') ∨ (e = .returned (.bool false) ∧ Jx (pre ++ [x]) W')
def one (o : Option Addr) (n c : Nat) : List Rl := if n = 0 then [] else [⟨o, n, c⟩]
theorem cellsOf_r {K : Nat → Prop} {w : World} {h b p : Nat} {t : Tr} {cs : List Value} (hc : ∀ q u, cs[q]? = some u → w.cell? ⟨b, p + q, none⟩ = some u) (hr : tyR K w h t cs) :
    ∃ (a0 : Int) (a1 : ByteArray) (a2 : Int) (o9 : Option Addr) (n9 c9 : Nat), cs = [.int .i64 a0, .string a1, .int .i64 a2, .slice o9 n9 c9] ∧ n9 ≤ maxLen ∧ slR w b (p + 3) = one o9 n9 c9 := by
  cases h with
  | zero => exact hr.elim
  | succ h =>
    obtain ⟨-, -, -, o1, c1, rfl, hs, hf, q1⟩ := hr
    have h3 := hc 3 (.slice o1 t.l.length c1) rfl
    refine ⟨_, _, _, o1, _, c1, rfl, hf.1, ?_⟩
    unfold slR one
    rw [h3]
theorem upto_pre (w : World) (b off i n : Nat) (h : i < n) (y : Rl) (hk : slR w b (off + i * 4 + 3) = [y]) : upto w b off i ++ [y] <+: upto w b off n := by
  refine List.IsPrefix.trans ?_ (upto_le w b off (i + 1) n h)
  rw [upto_succ, hk]
  exact List.prefix_rfl

set_option maxRecDepth 100000 in
set_option maxHeartbeats 4000000 in
theorem within_R (K : Nat → Prop) (w0 w : World) (h Bs : Nat) (o : Option Addr) (n c : Nat) (xs : List Tr) (hb0 : w0.heap.size ≤ w.heap.size) (hb1 : ∀ b, K b → w.heap[b]? = w0.heap[b]?) (hK : ∀ k, K k → k < w0.heap.size) (hr : Rd K w0 h ⟨o, n, c⟩ xs) (hm : n ≤ maxLen) (hBl : w0.heap.size ≤ Bs ∧ Bs < w.heap.size) (hBs : w.cell? ⟨Bs, 0, none⟩ = some (.slice o n c)) :
    SeqOf Try.prog 19 #[.pointer (some ⟨Bs, 0, none⟩)] (fun x => #[valR x]) (fun k => K k ∨ k = Bs) (fun pre y => pre ++ [y] <+: kids w0 ⟨o, n, c⟩) (fun ys => ys = kids w0 ⟨o, n, c⟩) w := by
  intro n9 l J Jx W hW hJ hY h0
  obtain ⟨b, off, e1, kb, hbl, hat⟩ := hr.at
  simp only at e1
  subst e1
  have hn := hr.2.1
  simp only at hn
  have hc9 : n ≤ c := by have := hr.2.2.1.2; simp only at this; omega
  have hks : kids w0 ⟨some ⟨b, off, none⟩, n, c⟩ = upto w0 b off n := rfl
  rw [hks] at hY ⊢
  have hm' : n ≤ 9223372036854775807 := hm
  have hbB : W.cell? ⟨Bs, 0, none⟩ = some (.slice (some ⟨b, off, none⟩) n c) := (hW.cell (p := ⟨Bs, 0, none⟩) hBl.2).trans hBs
  have hWb : W.heap[b]? = w0.heap[b]? := (hW.block b (Nat.lt_of_lt_of_le hbl hb0)).trans (hb1 b kb)
  have HY : Hid (Yds l W.heap.size J Jx (fun pre y => pre ++ [y] <+: upto w0 b off n)) := fun m pre x Pr W1 h1 h2 h3 h4 => hY m pre x Pr W1 h1 h2 h3 h4
  have HJ := hide hJ
  have HH0 := hide h0
  have HAT := hide hat
  have HWB := hide hWb
  have HR := hide hr
  clear hY hJ h0 hat hWb hBs hr hks hm
  refine callsIn_of_wp Try.func19 rfl trivial ?_ rfl
  simp only [Try.ntmps19, List.size_toArray, List.length_cons, List.length_nil, Nat.reduceAdd, Nat.reduceSub, Array.replicate_succ, Array.replicate_zero, List.push_toArray, List.append_toArray, List.nil_append, List.cons_append]
  gi_wp2
  clear hbB
  gi_loopw [7] (fun t7 wr => ∃ i : Nat, i ≤ n ∧ t7 = .int .i64 i ∧ J (upto w0 b off i) (fun k => K k ∨ k = Bs) wr ∧ KeptP (fun k => K k ∨ k = Bs) W wr) (fun t7 _ => n - (intOf t7).toNat)
  case atStart => exact ⟨0, Nat.zero_le _, rfl, HH0.out, KeptP.refl _ _⟩
  case round =>
    obtain ⟨i, hi, rfl, hj, hk⟩ := hrel
    have HJI := hide hj
    have HKI := hide hk
    clear hj hk
    by_cases hlt : i < n
    · obtain ⟨t, ht⟩ : ∃ t, xs[i]? = some t := ⟨xs[i]'(by omega), List.getElem?_eq_getElem (by omega)⟩
      obtain ⟨cs, hlen, hcs, hrt⟩ := HAT.out i t ht
      obtain ⟨a0, a1, a2, o9, m9, c8, rfl, hm9, hkids⟩ := cellsOf_r hcs hrt
      have hblk : wr.heap[b]? = w0.heap[b]? := (HKI.out.2 b (.inl kb) (Nat.lt_of_lt_of_le (Nat.lt_of_lt_of_le hbl hb0) hW.size)).trans HWB.out
      have hcx : ∀ q u, [Value.int .i64 a0, .string a1, .int .i64 a2, .slice o9 m9 c8][q]? = some u → wr.cell? ⟨b, off + i * 4 + q, none⟩ = some u := fun q u hq => (World.cell?_of_block (a := ⟨b, off + i * 4 + q, none⟩) hblk).trans (hcs q u hq)
      have q0 := hcx 0 (.int .i64 a0) rfl
      have q1 := hcx 1 (.string a1) rfl
      have q2 := hcx 2 (.int .i64 a2) rfl
      have q3 := hcx 3 (.slice o9 m9 c8) rfl
      rw [Nat.add_zero] at q0
      have HKD := hide hkids
      have hlt2 : (i : Int) < n := by omega
      have hNr : W.heap.size ≤ wr.heap.size := HKI.out.1
      clear hcs hcx hrt ht hlen hblk hkids
      have hba : Below wr.heap.size wr (wr.alloc (.cells #[.int .i64 a0, .string a1, .int .i64 a2, .slice o9 m9 c8] 29)) := (Below.refl _ wr).alloc (Nat.le_refl _) _
      have hbx : (wr.alloc (.cells #[.int .i64 a0, .string a1, .int .i64 a2, .slice o9 m9 c8] 29)).heap[wr.heap.size]? = some (.cells #[.int .i64 a0, .string a1, .int .i64 a2, .slice o9 m9 c8] 29 (0, 0)) := heap_alloc_new wr _
      have hja : J (upto w0 b off i) (fun k => (K k ∨ k = Bs) ∨ k = wr.heap.size) (wr.alloc (.cells #[.int .i64 a0, .string a1, .int .i64 a2, .slice o9 m9 c8] 29)) := HJ.out _ _ _ _ _ (Chg.of hba hNr) hNr (fun k hk => hk.imp id fun e => by omega) HJI.out
      have hpl : ∀ k, ((K k ∨ k = Bs) ∨ k = wr.heap.size) → k < (wr.alloc (.cells #[.int .i64 a0, .string a1, .int .i64 a2, .slice o9 m9 c8] 29)).heap.size := fun k hk => by
        have h8 := hW.size
        have h9 := hb0
        simp only [World.size_alloc]
        rcases hk with (hk | hk) | hk
        · have := hK k hk
          omega
        · omega
        · omega
      have HBX := hide hbx
      have HBA := hide hba
      have HJA := hide hja
      have hm9' : m9 ≤ 9223372036854775807 := hm9
      have b8 := cell_of hbx 3
      simp only [List.getElem?_toArray, List.getElem?_cons_succ, List.getElem?_cons_zero] at b8
      have hNV : W.heap.size ≤ (wr.alloc (.cells #[.int .i64 a0, .string a1, .int .i64 a2, .slice o9 m9 c8] 29)).heap.size := Nat.le_trans hNr hba.size
      clear hja hba hbx
      by_cases hz : m9 = 0
      · subst hz
        clear b8
        gi_wp2
        try refine ⟨fun _ h => (by cases h), ?_⟩
        try gi_wp2
        go_roundw
        case rel =>
          refine ⟨i + 1, hlt, by simp, ?_, HKI.out.trans (KeptP.of HBA.out)⟩
          have h8 := HJ.out _ _ (fun k => K k ∨ k = Bs) _ _ (Chg.refl _ _ _) hNV (fun k hk => .inl (.inl hk)) HJA.out
          have h7 : upto w0 b off (i + 1) = upto w0 b off i := by rw [upto_succ, HKD.out]; unfold one; rw [if_pos rfl]; simp
          rw [h7]
          exact h8
        case measure => simp [intOf]; omega
      · have z9 : (0 : Int) < m9 := by omega
        have hone : one o9 m9 c8 = [(⟨o9, m9, c8⟩ : Rl)] := by unfold one; rw [if_neg hz]
        obtain ⟨f9, t9, a9, d9, y9, r9⟩ := HY.out (n9 - 1) _ ⟨o9, m9, c8⟩ _ _ HJA.out (upto_pre w0 b off i n hlt _ (by rw [HKD.out, hone])) hNV hpl
        change (Instr.yield l #[.slice o9 m9 c8]).run Try.prog _ = _ at y9
        have R9 := hide r9
        clear r9 b8
        gi_wp2
        refine ⟨(fun h => by cases h), R9.out.mono ?_⟩
        rintro e V2 (⟨rfl, j2, k2⟩ | ⟨rfl, x2⟩)
        · have HJ2 := hide j2
          have HK2 := hide k2
          clear j2 k2 y9 R9
          gi_wp2
          go_roundw
          case rel =>
            refine ⟨i + 1, hlt, by simp, ?_, HKI.out.trans ((KeptP.of HBA.out).trans (HK2.out.less fun k hk => .inl hk))⟩
            have h8 := HJ.out _ _ (fun k => K k ∨ k = Bs) _ _ (Chg.refl _ _ _) (Nat.le_trans hNV HK2.out.1) (fun k hk => .inl (.inl hk)) HJ2.out
            have h7 : upto w0 b off (i + 1) = upto w0 b off i ++ [(⟨o9, m9, c8⟩ : Rl)] := by rw [upto_succ, HKD.out, hone]
            rw [h7]
            exact h8
          case measure => simp [intOf]; omega
        · have HX2 := hide x2
          clear x2 y9 R9
          gi_wp2
          refine bodyPost_ret (results_none rfl _ _ _) rfl ?_
          exact ⟨⟨_, rfl⟩, .inr ⟨_, HX2.out⟩⟩
    · obtain rfl : i = n := by omega
      gi_wp2
      go_end0
      exact ⟨⟨_, rfl⟩, .inl ⟨_, rfl, HJI.out⟩⟩
set_option maxHeartbeats 1000000 in
theorem withinF_R (o : Option Addr) (n c : Nat) (w : World) :
    Calls Try.prog 12 #[.slice o n c] w fun e w' => e = .returned (.func (.func 19) #[] #[.pointer (some ⟨w.heap.size, 0, none⟩)]) ∧ w' = w.alloc (.cells #[.slice o n c] 36) := by
  go_enter Try.func12, Try.ntmps12
  go_wp2
  go_ret
  exact ⟨rfl, rfl⟩
end Go.Proofs.Ytifambhfggodaaa.Rs
