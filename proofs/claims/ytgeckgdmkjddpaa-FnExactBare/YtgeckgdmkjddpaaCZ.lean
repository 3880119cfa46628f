/- The iterators over the lists that lie in a list, of each of the three kinds (made by genCZ.py). -/
import Derived.Test.YtgeckgdmkjddpaaCW
namespace Go.Proofs.Ytgeckgdmkjddpaa.Br
open Go.ChangeShapes Go.WideShapes Go.ChangeAt Go.RowKit Go.Shelf Go.Proofs.Ytgeckgdmkjddpaa.It
attribute [local go_sem] Oper.semAt_some
set_option linter.unusedVariables false

/-- What has come behind i elements. -/
def upto (w : World) (k b off i : Nat) : List Ls := (List.range i).flatMap fun j => kOne w k b (off + j * szI k)
theorem upto_succ (w : World) (k b off i : Nat) : upto w k b off (i + 1) = upto w k b off i ++ kOne w k b (off + i * szI k) := by
  unfold upto
  rw [List.range_succ, List.flatMap_append]
  simp
theorem upto_le (w : World) (k b off i n : Nat) (h : i ≤ n) : upto w k b off i <+: upto w k b off n := by
  obtain ⟨d, rfl⟩ := Nat.exists_eq_add_of_le h
  induction d with
  | zero => exact List.prefix_rfl
  | succ d ih => exact (ih (by omega)).trans (by rw [show i + (d + 1) = (i + d) + 1 by omega, upto_succ]; exact List.prefix_append _ _)
theorem upto_pre (w : World) (k b off i n : Nat) (h : i < n) (p : List Ls) (y : Ls) (q : List Ls) (hk : kOne w k b (off + i * szI k) = p ++ y :: q) : upto w k b off i ++ p ++ [y] <+: upto w k b off n := by
  refine List.IsPrefix.trans ?_ (upto_le w k b off (i + 1) n h)
  rw [upto_succ, hk]
  exact ⟨q, by simp⟩
theorem one_at {w : World} {b p i : Nat} {o : Option Addr} {n c : Nat} (h : w.cell? ⟨b, p, none⟩ = some (.slice o n c)) : slAt w b p i = one i o n c := by
  unfold slAt one
  rw [h]

/-- What is known of an element's cells. -/
theorem cellsOf_0 {K : Nat → Prop} {w : World} {h b p : Nat} {t : Tr} {cs : List Value} (hc : ∀ q u, cs[q]? = some u → w.cell? ⟨b, p + q, none⟩ = some u) (hr : rdI K w h 0 t cs) :
    ∃ a0 a1 a2 o0 n0 c0 o1 n1 c1 o2 n2 c2, cs = [(.int .i64 a0), (.string a1), (.int .i64 a2), (.slice o0 n0 c0), (.slice o1 n1 c1), (.slice o2 n2 c2)] ∧ n0 ≤ maxLen ∧ n1 ≤ maxLen ∧ n2 ≤ maxLen ∧ kOne w 0 b p = one 0 o0 n0 c0 ++ one 1 o1 n1 c1 ++ one 2 o2 n2 c2 := by
  cases h with
  | zero => exact hr.elim
  | succ h =>
    obtain ⟨-, o0, c0, o1, c1, o2, c2, rfl, -, f0, f1, f2, -, -, -⟩ := hr
    refine ⟨_, _, _, o0, _, c0, o1, _, c1, o2, _, c2, rfl, f0.1, f1.1, f2.1, ?_⟩
    show slAt w b (p + 3) 0 ++ slAt w b (p + 4) 1 ++ slAt w b (p + 5) 2 = _
    rw [one_at (hc 3 _ rfl), one_at (hc 4 _ rfl), one_at (hc 5 _ rfl)]

set_option maxRecDepth 100000 in
set_option maxHeartbeats 4000000 in
theorem within_0 (K : Nat → Prop) (w0 w : World) (h Bs : Nat) (o : Option Addr) (n c : Nat) (xs : List Tr) (hb0 : w0.heap.size ≤ w.heap.size) (hb1 : ∀ b, K b → w.heap[b]? = w0.heap[b]?) (hK : ∀ k, K k → k < w0.heap.size) (hr : Rd K w0 h ⟨0, o, n, c⟩ xs) (hm : n ≤ maxLen) (hBl : w0.heap.size ≤ Bs ∧ Bs < w.heap.size) (hBs : w.cell? ⟨Bs, 0, none⟩ = some (.slice o n c)) :
    SeqOf Try.prog 108 #[.pointer (some ⟨Bs, 0, none⟩)] (fun x => #[valL x]) (fun k => K k ∨ k = Bs) (fun pre y => pre ++ [y] <+: kids w0 ⟨0, o, n, c⟩) (fun ys => ys = kids w0 ⟨0, o, n, c⟩) w := by
  intro n9 l J Jx W hW hJ hY h0
  obtain ⟨b, off, e1, kb, hbl, hat⟩ := hr.at
  simp only at e1
  subst e1
  have hn := hr.2.2.1
  simp only at hn
  have hc9 : n ≤ c := by have := hr.2.2.2.1.2; simp only at this; omega
  have hks : kids w0 ⟨0, some ⟨b, off, none⟩, n, c⟩ = upto w0 0 b off n := rfl
  rw [hks] at hY ⊢
  have hm' : n ≤ 9223372036854775807 := hm
  have hbB : W.cell? ⟨Bs, 0, none⟩ = some (.slice (some ⟨b, off, none⟩) n c) := (hW.cell (p := ⟨Bs, 0, none⟩) hBl.2).trans hBs
  have hWb : W.heap[b]? = w0.heap[b]? := (hW.block b (Nat.lt_of_lt_of_le hbl hb0)).trans (hb1 b kb)
  have HY : Hid (Yds l W.heap.size J Jx (fun pre y => pre ++ [y] <+: upto w0 0 b off n)) := fun m pre x Pr W1 h1 h2 h3 h4 => hY m pre x Pr W1 h1 h2 h3 h4
  have HJ := hide hJ
  have HH0 := hide h0
  have HAT := hide hat
  have HWB := hide hWb
  have HR := hide hr
  clear hY hJ h0 hat hWb hBs hr hks hm
  refine callsIn_of_wp Try.func108 rfl trivial ?_ rfl
  simp only [Try.ntmps108, List.size_toArray, List.length_cons, List.length_nil, Nat.reduceAdd, Nat.reduceSub, Array.replicate_succ, Array.replicate_zero, List.push_toArray, List.append_toArray, List.nil_append, List.cons_append]
  gi_wp2
  clear hbB
  gi_loopw [7] (fun t7 wr => ∃ i : Nat, i ≤ n ∧ t7 = .int .i64 i ∧ J (upto w0 0 b off i) (fun k => K k ∨ k = Bs) wr ∧ KeptP (fun k => K k ∨ k = Bs) W wr) (fun t7 _ => n - (intOf t7).toNat)
  case atStart => exact ⟨0, Nat.zero_le _, rfl, HH0.out, KeptP.refl _ _⟩
  case round =>
    obtain ⟨i, hi, rfl, hj, hk⟩ := hrel
    have HJI := hide hj
    have HKI := hide hk
    clear hj hk
    by_cases hlt : i < n
    · obtain ⟨t, ht⟩ : ∃ t, xs[i]? = some t := ⟨xs[i]'(by omega), List.getElem?_eq_getElem (by omega)⟩
      obtain ⟨cs, hlen, hcs, hrt⟩ := HAT.out i t ht
      obtain ⟨a0, a1, a2, o0, n0, c0, o1, n1, c1, o2, n2, c2, rfl, hm0, hm1, hm2, hkids⟩ := cellsOf_0 hcs hrt
      have hblk : wr.heap[b]? = w0.heap[b]? := (HKI.out.2 b (.inl kb) (Nat.lt_of_lt_of_le (Nat.lt_of_lt_of_le hbl hb0) hW.size)).trans HWB.out
      have hcx : ∀ q u, [(.int .i64 a0), (.string a1), (.int .i64 a2), (.slice o0 n0 c0), (.slice o1 n1 c1), (.slice o2 n2 c2)][q]? = some u → wr.cell? ⟨b, off + i * 6 + q, none⟩ = some u := fun q u hq => (World.cell?_of_block (a := ⟨b, off + i * 6 + q, none⟩) hblk).trans (hcs q u hq)
      have q0 := hcx 0 (.int .i64 a0) rfl
      have q1 := hcx 1 (.string a1) rfl
      have q2 := hcx 2 (.int .i64 a2) rfl
      have q3 := hcx 3 (.slice o0 n0 c0) rfl
      have q4 := hcx 4 (.slice o1 n1 c1) rfl
      have q5 := hcx 5 (.slice o2 n2 c2) rfl
      rw [Nat.add_zero] at q0
      have hkids' : kOne w0 0 b (off + i * 6) = one 0 o0 n0 c0 ++ one 1 o1 n1 c1 ++ one 2 o2 n2 c2 := hkids
      have HKD := hide hkids'
      have hlt2 : (i : Int) < n := by omega
      have hin : ∀ p y q, kOne w0 0 b (off + i * 6) = p ++ y :: q → upto w0 0 b off i ++ p ++ [y] <+: upto w0 0 b off n := fun p y q hy => upto_pre w0 0 b off i n hlt p y q hy
      have HIN := hide hin
      have hNr : W.heap.size ≤ wr.heap.size := HKI.out.1
      clear hcs hcx hrt ht hlen hblk hkids hkids' hin
      have hba : Below wr.heap.size wr (wr.alloc (.cells #[(.int .i64 a0), (.string a1), (.int .i64 a2), (.slice o0 n0 c0), (.slice o1 n1 c1), (.slice o2 n2 c2)] 32)) := (Below.refl _ wr).alloc (Nat.le_refl _) _
      have hbx : (wr.alloc (.cells #[(.int .i64 a0), (.string a1), (.int .i64 a2), (.slice o0 n0 c0), (.slice o1 n1 c1), (.slice o2 n2 c2)] 32)).heap[wr.heap.size]? = some (.cells #[(.int .i64 a0), (.string a1), (.int .i64 a2), (.slice o0 n0 c0), (.slice o1 n1 c1), (.slice o2 n2 c2)] 32 (0, 0)) := heap_alloc_new wr _
      have hja : J (upto w0 0 b off i) (fun k => (K k ∨ k = Bs) ∨ k = wr.heap.size) (wr.alloc (.cells #[(.int .i64 a0), (.string a1), (.int .i64 a2), (.slice o0 n0 c0), (.slice o1 n1 c1), (.slice o2 n2 c2)] 32)) := HJ.out _ _ _ _ _ (Chg.of hba hNr) hNr (fun k hk => hk.imp id fun e => by omega) HJI.out
      have hpl : ∀ k, ((K k ∨ k = Bs) ∨ k = wr.heap.size) → k < (wr.alloc (.cells #[(.int .i64 a0), (.string a1), (.int .i64 a2), (.slice o0 n0 c0), (.slice o1 n1 c1), (.slice o2 n2 c2)] 32)).heap.size := fun k hk => by
        have h8 := hW.size
        have h9 := hb0
        simp only [World.size_alloc]
        rcases hk with (hk | hk) | hk
        · have := hK k hk
          omega
        · omega
        · omega
      have HEA := hide (each_in (n9 - 1) l W.heap.size J Jx (fun pre y => pre ++ [y] <+: upto w0 0 b off n) HJ.out HY.out (upto w0 0 b off i) (fun k => (K k ∨ k = Bs) ∨ k = wr.heap.size) (wr.alloc (.cells #[(.int .i64 a0), (.string a1), (.int .i64 a2), (.slice o0 n0 c0), (.slice o1 n1 c1), (.slice o2 n2 c2)] 32)) (.int .i64 a0) (.string a1) (.int .i64 a2) o0 o1 o2 n0 n1 n2 c0 c1 c2 hm0 hm1 hm2 (fun p y q hy => HIN.out p y q (by rw [HKD.out]; exact hy)) hja (Nat.le_trans hNr hba.size) hpl)
      have HBX := hide hbx
      have HBA := hide hba
      clear hja hba hbx
      gi_wp2_with fail
      first | refine ⟨trivial, (fun h => by cases h), ?_⟩ | refine ⟨(fun h => by cases h), ?_⟩ | refine ⟨trivial, ?_⟩
      refine HEA.out.mono ?_
      rintro e V (⟨rfl, hj, hk⟩ | ⟨rfl, hx⟩)
      · have HV := hide hj
        have HKV := hide hk
        clear hj hk
        gi_wp2
        go_roundw
        case rel =>
          refine ⟨i + 1, hlt, by simp, ?_, HKI.out.trans ((KeptP.of HBA.out).trans (HKV.out.less fun k hk => .inl hk))⟩
          have h8 := HJ.out _ _ (fun k => K k ∨ k = Bs) _ _ (Chg.refl _ _ _) (Nat.le_trans hNr (Nat.le_trans HBA.out.size HKV.out.1)) (fun k hk => .inl (.inl hk)) HV.out
          rw [← HKD.out] at h8
          rw [upto_succ]
          exact h8
        case measure => simp [intOf]; omega
      · have HX := hide hx
        clear hx
        gi_wp2
        refine bodyPost_ret (results_none rfl _ _ _) rfl ?_
        obtain ⟨s, hs⟩ := HX.out
        exact ⟨⟨_, rfl⟩, .inr ⟨_, hs⟩⟩
    · obtain rfl : i = n := by omega
      gi_wp2
      go_end0
      exact ⟨⟨_, rfl⟩, .inl ⟨_, rfl, HJI.out⟩⟩
set_option maxHeartbeats 1000000 in
theorem withinF_0 (o : Option Addr) (n c : Nat) (w : World) :
    Calls Try.prog 107 #[.slice o n c] w fun e w' => e = .returned (.func (.func 108) #[] #[.pointer (some ⟨w.heap.size, 0, none⟩)]) ∧ w' = w.alloc (.cells #[.slice o n c] 58) := by
  go_enter Try.func107, Try.ntmps107
  go_wp2
  go_ret
  exact ⟨rfl, rfl⟩

/-- What is known of an element's cells. -/
theorem cellsOf_1 {K : Nat → Prop} {w : World} {h b p : Nat} {t : Tr} {cs : List Value} (hc : ∀ q u, cs[q]? = some u → w.cell? ⟨b, p + q, none⟩ = some u) (hr : rdI K w h 1 t cs) :
    ∃ b0 oP nP cP a0 a1 a2 o0 n0 c0 o1 n1 c1 o2 n2 c2 o9 n9 c9, cs = [(.string b0), (.slice oP nP cP), (.int .i64 a0), (.string a1), (.int .i64 a2), (.slice o0 n0 c0), (.slice o1 n1 c1), (.slice o2 n2 c2), (.slice o9 n9 c9)] ∧ n0 ≤ maxLen ∧ n1 ≤ maxLen ∧ n2 ≤ maxLen ∧ n9 ≤ maxLen ∧ kOne w 1 b p = one 0 o0 n0 c0 ++ one 1 o1 n1 c1 ++ one 2 o2 n2 c2 ++ one 1 o9 n9 c9 := by
  cases h with
  | zero => exact hr.elim
  | succ h =>
    obtain ⟨-, -, -, e, q1, d1, ce, o9, c9, hl, rfl, -, f1, f9, -, lce, rce, r9⟩ := hr
    cases h with
    | zero => exact rce.elim
    | succ h =>
      obtain ⟨-, o0, c0, o1, c1, o2, c2, rfl, -, f0, f1, f2, -, -, -⟩ := rce
      refine ⟨_, _, _, _, _, _, _, o0, _, c0, o1, _, c1, o2, _, c2, o9, _, c9, rfl, f0.1, f1.1, f2.1, f9.1, ?_⟩
      show slAt w b (p + 2 + 3) 0 ++ slAt w b (p + 2 + 4) 1 ++ slAt w b (p + 2 + 5) 2 ++ slAt w b (p + 8) 1 = _
      rw [one_at (hc 5 _ rfl), one_at (hc 6 _ rfl), one_at (hc 7 _ rfl), one_at (hc 8 _ rfl)]

set_option maxRecDepth 100000 in
set_option maxHeartbeats 4000000 in
theorem within_1 (K : Nat → Prop) (w0 w : World) (h Bs : Nat) (o : Option Addr) (n c : Nat) (xs : List Tr) (hb0 : w0.heap.size ≤ w.heap.size) (hb1 : ∀ b, K b → w.heap[b]? = w0.heap[b]?) (hK : ∀ k, K k → k < w0.heap.size) (hr : Rd K w0 h ⟨1, o, n, c⟩ xs) (hm : n ≤ maxLen) (hBl : w0.heap.size ≤ Bs ∧ Bs < w.heap.size) (hBs : w.cell? ⟨Bs, 0, none⟩ = some (.slice o n c)) :
    SeqOf Try.prog 113 #[.pointer (some ⟨Bs, 0, none⟩)] (fun x => #[valL x]) (fun k => K k ∨ k = Bs) (fun pre y => pre ++ [y] <+: kids w0 ⟨1, o, n, c⟩) (fun ys => ys = kids w0 ⟨1, o, n, c⟩) w := by
  intro n9 l J Jx W hW hJ hY h0
  obtain ⟨b, off, e1, kb, hbl, hat⟩ := hr.at
  simp only at e1
  subst e1
  have hn := hr.2.2.1
  simp only at hn
  have hc9 : n ≤ c := by have := hr.2.2.2.1.2; simp only at this; omega
  have hks : kids w0 ⟨1, some ⟨b, off, none⟩, n, c⟩ = upto w0 1 b off n := rfl
  rw [hks] at hY ⊢
  have hm' : n ≤ 9223372036854775807 := hm
  have hbB : W.cell? ⟨Bs, 0, none⟩ = some (.slice (some ⟨b, off, none⟩) n c) := (hW.cell (p := ⟨Bs, 0, none⟩) hBl.2).trans hBs
  have hWb : W.heap[b]? = w0.heap[b]? := (hW.block b (Nat.lt_of_lt_of_le hbl hb0)).trans (hb1 b kb)
  have HY : Hid (Yds l W.heap.size J Jx (fun pre y => pre ++ [y] <+: upto w0 1 b off n)) := fun m pre x Pr W1 h1 h2 h3 h4 => hY m pre x Pr W1 h1 h2 h3 h4
  have HJ := hide hJ
  have HH0 := hide h0
  have HAT := hide hat
  have HWB := hide hWb
  have HR := hide hr
  clear hY hJ h0 hat hWb hBs hr hks hm
  refine callsIn_of_wp Try.func113 rfl trivial ?_ rfl
  simp only [Try.ntmps113, List.size_toArray, List.length_cons, List.length_nil, Nat.reduceAdd, Nat.reduceSub, Array.replicate_succ, Array.replicate_zero, List.push_toArray, List.append_toArray, List.nil_append, List.cons_append]
  gi_wp2
  clear hbB
  gi_loopw [7] (fun t7 wr => ∃ i : Nat, i ≤ n ∧ t7 = .int .i64 i ∧ J (upto w0 1 b off i) (fun k => K k ∨ k = Bs) wr ∧ KeptP (fun k => K k ∨ k = Bs) W wr) (fun t7 _ => n - (intOf t7).toNat)
  case atStart => exact ⟨0, Nat.zero_le _, rfl, HH0.out, KeptP.refl _ _⟩
  case round =>
    obtain ⟨i, hi, rfl, hj, hk⟩ := hrel
    have HJI := hide hj
    have HKI := hide hk
    clear hj hk
    by_cases hlt : i < n
    · obtain ⟨t, ht⟩ : ∃ t, xs[i]? = some t := ⟨xs[i]'(by omega), List.getElem?_eq_getElem (by omega)⟩
      obtain ⟨cs, hlen, hcs, hrt⟩ := HAT.out i t ht
      obtain ⟨b0, oP, nP, cP, a0, a1, a2, o0, n0, c0, o1, n1, c1, o2, n2, c2, o9, m9, c8, rfl, hm0, hm1, hm2, hm9, hkids⟩ := cellsOf_1 hcs hrt
      have hblk : wr.heap[b]? = w0.heap[b]? := (HKI.out.2 b (.inl kb) (Nat.lt_of_lt_of_le (Nat.lt_of_lt_of_le hbl hb0) hW.size)).trans HWB.out
      have hcx : ∀ q u, [(.string b0), (.slice oP nP cP), (.int .i64 a0), (.string a1), (.int .i64 a2), (.slice o0 n0 c0), (.slice o1 n1 c1), (.slice o2 n2 c2), (.slice o9 m9 c8)][q]? = some u → wr.cell? ⟨b, off + i * 9 + q, none⟩ = some u := fun q u hq => (World.cell?_of_block (a := ⟨b, off + i * 9 + q, none⟩) hblk).trans (hcs q u hq)
      have q0 := hcx 0 (.string b0) rfl
      have q1 := hcx 1 (.slice oP nP cP) rfl
      have q2 := hcx 2 (.int .i64 a0) rfl
      have q3 := hcx 3 (.string a1) rfl
      have q4 := hcx 4 (.int .i64 a2) rfl
      have q5 := hcx 5 (.slice o0 n0 c0) rfl
      have q6 := hcx 6 (.slice o1 n1 c1) rfl
      have q7 := hcx 7 (.slice o2 n2 c2) rfl
      have q8 := hcx 8 (.slice o9 m9 c8) rfl
      rw [Nat.add_zero] at q0
      have hkids' : kOne w0 1 b (off + i * 9) = one 0 o0 n0 c0 ++ one 1 o1 n1 c1 ++ one 2 o2 n2 c2 ++ one 1 o9 m9 c8 := hkids
      have HKD := hide hkids'
      have hlt2 : (i : Int) < n := by omega
      have hin : ∀ p y q, kOne w0 1 b (off + i * 9) = p ++ y :: q → upto w0 1 b off i ++ p ++ [y] <+: upto w0 1 b off n := fun p y q hy => upto_pre w0 1 b off i n hlt p y q hy
      have HIN := hide hin
      have hNr : W.heap.size ≤ wr.heap.size := HKI.out.1
      clear hcs hcx hrt ht hlen hblk hkids hkids' hin
      have hba : Below wr.heap.size wr (wr.alloc (.cells #[(.string b0), (.slice oP nP cP), (.int .i64 a0), (.string a1), (.int .i64 a2), (.slice o0 n0 c0), (.slice o1 n1 c1), (.slice o2 n2 c2), (.slice o9 m9 c8)] 44)) := (Below.refl _ wr).alloc (Nat.le_refl _) _
      have hbx : (wr.alloc (.cells #[(.string b0), (.slice oP nP cP), (.int .i64 a0), (.string a1), (.int .i64 a2), (.slice o0 n0 c0), (.slice o1 n1 c1), (.slice o2 n2 c2), (.slice o9 m9 c8)] 44)).heap[wr.heap.size]? = some (.cells #[(.string b0), (.slice oP nP cP), (.int .i64 a0), (.string a1), (.int .i64 a2), (.slice o0 n0 c0), (.slice o1 n1 c1), (.slice o2 n2 c2), (.slice o9 m9 c8)] 44 (0, 0)) := heap_alloc_new wr _
      have hja : J (upto w0 1 b off i) (fun k => (K k ∨ k = Bs) ∨ k = wr.heap.size) (wr.alloc (.cells #[(.string b0), (.slice oP nP cP), (.int .i64 a0), (.string a1), (.int .i64 a2), (.slice o0 n0 c0), (.slice o1 n1 c1), (.slice o2 n2 c2), (.slice o9 m9 c8)] 44)) := HJ.out _ _ _ _ _ (Chg.of hba hNr) hNr (fun k hk => hk.imp id fun e => by omega) HJI.out
      have hpl : ∀ k, ((K k ∨ k = Bs) ∨ k = wr.heap.size) → k < (wr.alloc (.cells #[(.string b0), (.slice oP nP cP), (.int .i64 a0), (.string a1), (.int .i64 a2), (.slice o0 n0 c0), (.slice o1 n1 c1), (.slice o2 n2 c2), (.slice o9 m9 c8)] 44)).heap.size := fun k hk => by
        have h8 := hW.size
        have h9 := hb0
        simp only [World.size_alloc]
        rcases hk with (hk | hk) | hk
        · have := hK k hk
          omega
        · omega
        · omega
      have HEA := hide (each_in (n9 - 1) l W.heap.size J Jx (fun pre y => pre ++ [y] <+: upto w0 1 b off n) HJ.out HY.out (upto w0 1 b off i) (fun k => (K k ∨ k = Bs) ∨ k = wr.heap.size) (wr.alloc (.cells #[(.string b0), (.slice oP nP cP), (.int .i64 a0), (.string a1), (.int .i64 a2), (.slice o0 n0 c0), (.slice o1 n1 c1), (.slice o2 n2 c2), (.slice o9 m9 c8)] 44)) (.int .i64 a0) (.string a1) (.int .i64 a2) o0 o1 o2 n0 n1 n2 c0 c1 c2 hm0 hm1 hm2 (fun p y q hy => HIN.out p y (q ++ one 1 o9 m9 c8) (by rw [HKD.out, hy]; simp)) hja (Nat.le_trans hNr hba.size) hpl)
      have HBX := hide hbx
      have HBA := hide hba
      clear hja hba hbx
      gi_wp2_with fail
      first | refine ⟨trivial, (fun h => by cases h), ?_⟩ | refine ⟨(fun h => by cases h), ?_⟩ | refine ⟨trivial, ?_⟩
      refine HEA.out.mono ?_
      rintro e V (⟨rfl, hj, hk⟩ | ⟨rfl, hx⟩)
      · have HV := hide hj
        have HKV := hide hk
        have hbv : V.heap[wr.heap.size]? = some (.cells #[(.string b0), (.slice oP nP cP), (.int .i64 a0), (.string a1), (.int .i64 a2), (.slice o0 n0 c0), (.slice o1 n1 c1), (.slice o2 n2 c2), (.slice o9 m9 c8)] 44 (0, 0)) := (hk.2 _ (.inr rfl) (by simp)).trans HBX.out
        have HBV := hide hbv
        have b8 := cell_of hbv 8
        simp only [List.getElem?_toArray, List.getElem?_cons_succ, List.getElem?_cons_zero] at b8
        have hNV : W.heap.size ≤ V.heap.size := Nat.le_trans hNr (Nat.le_trans HBA.out.size hk.1)
        clear hj hk hbv
        have hm9' : m9 ≤ 9223372036854775807 := hm9
        by_cases hz : m9 = 0
        · subst hz
          gi_wp2
          try refine ⟨fun _ h => (by cases h), ?_⟩
          try gi_wp2
          go_roundw
          case rel =>
            refine ⟨i + 1, hlt, by simp, ?_, HKI.out.trans ((KeptP.of HBA.out).trans (HKV.out.less fun k hk => .inl hk))⟩
            have h8 := HJ.out _ _ (fun k => K k ∨ k = Bs) _ _ (Chg.refl _ _ _) hNV (fun k hk => .inl (.inl hk)) HV.out
            have h7 : upto w0 1 b off (i + 1) = upto w0 1 b off i ++ (one 0 o0 n0 c0 ++ one 1 o1 n1 c1 ++ one 2 o2 n2 c2) := by rw [upto_succ]; show _ ++ kOne w0 1 b (off + i * 9) = _; rw [HKD.out]; simp [one]
            rw [h7]
            exact h8
          case measure => simp [intOf]; omega
        · have z9 : (0 : Int) < m9 := by omega
          have hone : one 1 o9 m9 c8 = [(⟨1, o9, m9, c8⟩ : Ls)] := by unfold one; rw [if_neg hz]
          obtain ⟨f9, t9, a9, d9, y9, r9⟩ := HY.out (n9 - 1) _ ⟨1, o9, m9, c8⟩ _ V HV.out (HIN.out (one 0 o0 n0 c0 ++ one 1 o1 n1 c1 ++ one 2 o2 n2 c2) _ [] (by rw [HKD.out, hone])) hNV (fun k hk => Nat.lt_of_lt_of_le (hpl k hk) HKV.out.1)
          change (Instr.yield l #[.iface 97 (.slice o9 m9 c8)]).run Try.prog _ = _ at y9
          have R9 := hide r9
          clear r9
          gi_wp2
          refine ⟨(fun h => by cases h), R9.out.mono ?_⟩
          rintro e V2 (⟨rfl, j2, k2⟩ | ⟨rfl, x2⟩)
          · have HJ2 := hide j2
            have HK2 := hide k2
            clear j2 k2 y9 R9
            gi_wp2
            go_roundw
            case rel =>
              refine ⟨i + 1, hlt, by simp, ?_, HKI.out.trans ((KeptP.of HBA.out).trans ((HKV.out.less fun k hk => .inl hk).trans (HK2.out.less fun k hk => .inl hk)))⟩
              have h8 := HJ.out _ _ (fun k => K k ∨ k = Bs) _ _ (Chg.refl _ _ _) (Nat.le_trans hNV HK2.out.1) (fun k hk => .inl (.inl hk)) HJ2.out
              have h7 : upto w0 1 b off (i + 1) = upto w0 1 b off i ++ (one 0 o0 n0 c0 ++ one 1 o1 n1 c1 ++ one 2 o2 n2 c2) ++ [(⟨1, o9, m9, c8⟩ : Ls)] := by rw [upto_succ]; show _ ++ kOne w0 1 b (off + i * 9) = _; rw [HKD.out, hone]; simp
              rw [h7]
              exact h8
            case measure => simp [intOf]; omega
          · have HX2 := hide x2
            clear x2 y9 R9
            gi_wp2
            refine bodyPost_ret (results_none rfl _ _ _) rfl ?_
            exact ⟨⟨_, rfl⟩, .inr ⟨_, HX2.out⟩⟩
      · have HX := hide hx
        clear hx
        gi_wp2
        try any_goals (exact absurd ‹some undef = some (Value.bool _)› (by simp [undef]))
        try refine ⟨fun _ h => (by cases h), ?_⟩
        try gi_wp2
        try any_goals (exact absurd ‹some undef = some (Value.bool _)› (by simp [undef]))
        refine bodyPost_ret (results_none rfl _ _ _) rfl ?_
        obtain ⟨s, hs⟩ := HX.out
        exact ⟨⟨_, rfl⟩, .inr ⟨_, hs⟩⟩
    · obtain rfl : i = n := by omega
      gi_wp2
      go_end0
      exact ⟨⟨_, rfl⟩, .inl ⟨_, rfl, HJI.out⟩⟩
set_option maxHeartbeats 1000000 in
theorem withinF_1 (o : Option Addr) (n c : Nat) (w : World) :
    Calls Try.prog 112 #[.slice o n c] w fun e w' => e = .returned (.func (.func 113) #[] #[.pointer (some ⟨w.heap.size, 0, none⟩)]) ∧ w' = w.alloc (.cells #[.slice o n c] 97) := by
  go_enter Try.func112, Try.ntmps112
  go_wp2
  go_ret
  exact ⟨rfl, rfl⟩

/-- What is known of an element's cells. -/
theorem cellsOf_2 {K : Nat → Prop} {w : World} {h b p : Nat} {t : Tr} {cs : List Value} (hc : ∀ q u, cs[q]? = some u → w.cell? ⟨b, p + q, none⟩ = some u) (hr : rdI K w h 2 t cs) :
    ∃ b0 oP nP cP a0 a1 a2 o0 n0 c0 o1 n1 c1 o2 n2 c2, cs = [(.string b0), (.slice oP nP cP), (.int .i64 a0), (.string a1), (.int .i64 a2), (.slice o0 n0 c0), (.slice o1 n1 c1), (.slice o2 n2 c2)] ∧ n0 ≤ maxLen ∧ n1 ≤ maxLen ∧ n2 ≤ maxLen ∧ kOne w 2 b p = one 0 o0 n0 c0 ++ one 1 o1 n1 c1 ++ one 2 o2 n2 c2 := by
  cases h with
  | zero => exact hr.elim
  | succ h =>
    obtain ⟨-, -, -, -, e, q1, d1, ce, hl, rfl, -, f1, -, lce, rce⟩ := hr
    cases h with
    | zero => exact rce.elim
    | succ h =>
      obtain ⟨-, o0, c0, o1, c1, o2, c2, rfl, -, f0, f1, f2, -, -, -⟩ := rce
      refine ⟨_, _, _, _, _, _, _, o0, _, c0, o1, _, c1, o2, _, c2, rfl, f0.1, f1.1, f2.1, ?_⟩
      show slAt w b (p + 2 + 3) 0 ++ slAt w b (p + 2 + 4) 1 ++ slAt w b (p + 2 + 5) 2 = _
      rw [one_at (hc 5 _ rfl), one_at (hc 6 _ rfl), one_at (hc 7 _ rfl)]

set_option maxRecDepth 100000 in
set_option maxHeartbeats 4000000 in
theorem within_2 (K : Nat → Prop) (w0 w : World) (h Bs : Nat) (o : Option Addr) (n c : Nat) (xs : List Tr) (hb0 : w0.heap.size ≤ w.heap.size) (hb1 : ∀ b, K b → w.heap[b]? = w0.heap[b]?) (hK : ∀ k, K k → k < w0.heap.size) (hr : Rd K w0 h ⟨2, o, n, c⟩ xs) (hm : n ≤ maxLen) (hBl : w0.heap.size ≤ Bs ∧ Bs < w.heap.size) (hBs : w.cell? ⟨Bs, 0, none⟩ = some (.slice o n c)) :
    SeqOf Try.prog 120 #[.pointer (some ⟨Bs, 0, none⟩)] (fun x => #[valL x]) (fun k => K k ∨ k = Bs) (fun pre y => pre ++ [y] <+: kids w0 ⟨2, o, n, c⟩) (fun ys => ys = kids w0 ⟨2, o, n, c⟩) w := by
  intro n9 l J Jx W hW hJ hY h0
  obtain ⟨b, off, e1, kb, hbl, hat⟩ := hr.at
  simp only at e1
  subst e1
  have hn := hr.2.2.1
  simp only at hn
  have hc9 : n ≤ c := by have := hr.2.2.2.1.2; simp only at this; omega
  have hks : kids w0 ⟨2, some ⟨b, off, none⟩, n, c⟩ = upto w0 2 b off n := rfl
  rw [hks] at hY ⊢
  have hm' : n ≤ 9223372036854775807 := hm
  have hbB : W.cell? ⟨Bs, 0, none⟩ = some (.slice (some ⟨b, off, none⟩) n c) := (hW.cell (p := ⟨Bs, 0, none⟩) hBl.2).trans hBs
  have hWb : W.heap[b]? = w0.heap[b]? := (hW.block b (Nat.lt_of_lt_of_le hbl hb0)).trans (hb1 b kb)
  have HY : Hid (Yds l W.heap.size J Jx (fun pre y => pre ++ [y] <+: upto w0 2 b off n)) := fun m pre x Pr W1 h1 h2 h3 h4 => hY m pre x Pr W1 h1 h2 h3 h4
  have HJ := hide hJ
  have HH0 := hide h0
  have HAT := hide hat
  have HWB := hide hWb
  have HR := hide hr
  clear hY hJ h0 hat hWb hBs hr hks hm
  refine callsIn_of_wp Try.func120 rfl trivial ?_ rfl
  simp only [Try.ntmps120, List.size_toArray, List.length_cons, List.length_nil, Nat.reduceAdd, Nat.reduceSub, Array.replicate_succ, Array.replicate_zero, List.push_toArray, List.append_toArray, List.nil_append, List.cons_append]
  gi_wp2
  clear hbB
  gi_loopw [7] (fun t7 wr => ∃ i : Nat, i ≤ n ∧ t7 = .int .i64 i ∧ J (upto w0 2 b off i) (fun k => K k ∨ k = Bs) wr ∧ KeptP (fun k => K k ∨ k = Bs) W wr) (fun t7 _ => n - (intOf t7).toNat)
  case atStart => exact ⟨0, Nat.zero_le _, rfl, HH0.out, KeptP.refl _ _⟩
  case round =>
    obtain ⟨i, hi, rfl, hj, hk⟩ := hrel
    have HJI := hide hj
    have HKI := hide hk
    clear hj hk
    by_cases hlt : i < n
    · obtain ⟨t, ht⟩ : ∃ t, xs[i]? = some t := ⟨xs[i]'(by omega), List.getElem?_eq_getElem (by omega)⟩
      obtain ⟨cs, hlen, hcs, hrt⟩ := HAT.out i t ht
      obtain ⟨b0, oP, nP, cP, a0, a1, a2, o0, n0, c0, o1, n1, c1, o2, n2, c2, rfl, hm0, hm1, hm2, hkids⟩ := cellsOf_2 hcs hrt
      have hblk : wr.heap[b]? = w0.heap[b]? := (HKI.out.2 b (.inl kb) (Nat.lt_of_lt_of_le (Nat.lt_of_lt_of_le hbl hb0) hW.size)).trans HWB.out
      have hcx : ∀ q u, [(.string b0), (.slice oP nP cP), (.int .i64 a0), (.string a1), (.int .i64 a2), (.slice o0 n0 c0), (.slice o1 n1 c1), (.slice o2 n2 c2)][q]? = some u → wr.cell? ⟨b, off + i * 8 + q, none⟩ = some u := fun q u hq => (World.cell?_of_block (a := ⟨b, off + i * 8 + q, none⟩) hblk).trans (hcs q u hq)
      have q0 := hcx 0 (.string b0) rfl
      have q1 := hcx 1 (.slice oP nP cP) rfl
      have q2 := hcx 2 (.int .i64 a0) rfl
      have q3 := hcx 3 (.string a1) rfl
      have q4 := hcx 4 (.int .i64 a2) rfl
      have q5 := hcx 5 (.slice o0 n0 c0) rfl
      have q6 := hcx 6 (.slice o1 n1 c1) rfl
      have q7 := hcx 7 (.slice o2 n2 c2) rfl
      rw [Nat.add_zero] at q0
      have hkids' : kOne w0 2 b (off + i * 8) = one 0 o0 n0 c0 ++ one 1 o1 n1 c1 ++ one 2 o2 n2 c2 := hkids
      have HKD := hide hkids'
      have hlt2 : (i : Int) < n := by omega
      have hin : ∀ p y q, kOne w0 2 b (off + i * 8) = p ++ y :: q → upto w0 2 b off i ++ p ++ [y] <+: upto w0 2 b off n := fun p y q hy => upto_pre w0 2 b off i n hlt p y q hy
      have HIN := hide hin
      have hNr : W.heap.size ≤ wr.heap.size := HKI.out.1
      clear hcs hcx hrt ht hlen hblk hkids hkids' hin
      have hba : Below wr.heap.size wr (wr.alloc (.cells #[(.string b0), (.slice oP nP cP), (.int .i64 a0), (.string a1), (.int .i64 a2), (.slice o0 n0 c0), (.slice o1 n1 c1), (.slice o2 n2 c2)] 54)) := (Below.refl _ wr).alloc (Nat.le_refl _) _
      have hbx : (wr.alloc (.cells #[(.string b0), (.slice oP nP cP), (.int .i64 a0), (.string a1), (.int .i64 a2), (.slice o0 n0 c0), (.slice o1 n1 c1), (.slice o2 n2 c2)] 54)).heap[wr.heap.size]? = some (.cells #[(.string b0), (.slice oP nP cP), (.int .i64 a0), (.string a1), (.int .i64 a2), (.slice o0 n0 c0), (.slice o1 n1 c1), (.slice o2 n2 c2)] 54 (0, 0)) := heap_alloc_new wr _
      have hja : J (upto w0 2 b off i) (fun k => (K k ∨ k = Bs) ∨ k = wr.heap.size) (wr.alloc (.cells #[(.string b0), (.slice oP nP cP), (.int .i64 a0), (.string a1), (.int .i64 a2), (.slice o0 n0 c0), (.slice o1 n1 c1), (.slice o2 n2 c2)] 54)) := HJ.out _ _ _ _ _ (Chg.of hba hNr) hNr (fun k hk => hk.imp id fun e => by omega) HJI.out
      have hpl : ∀ k, ((K k ∨ k = Bs) ∨ k = wr.heap.size) → k < (wr.alloc (.cells #[(.string b0), (.slice oP nP cP), (.int .i64 a0), (.string a1), (.int .i64 a2), (.slice o0 n0 c0), (.slice o1 n1 c1), (.slice o2 n2 c2)] 54)).heap.size := fun k hk => by
        have h8 := hW.size
        have h9 := hb0
        simp only [World.size_alloc]
        rcases hk with (hk | hk) | hk
        · have := hK k hk
          omega
        · omega
        · omega
      have HEA := hide (each_in (n9 - 1) l W.heap.size J Jx (fun pre y => pre ++ [y] <+: upto w0 2 b off n) HJ.out HY.out (upto w0 2 b off i) (fun k => (K k ∨ k = Bs) ∨ k = wr.heap.size) (wr.alloc (.cells #[(.string b0), (.slice oP nP cP), (.int .i64 a0), (.string a1), (.int .i64 a2), (.slice o0 n0 c0), (.slice o1 n1 c1), (.slice o2 n2 c2)] 54)) (.int .i64 a0) (.string a1) (.int .i64 a2) o0 o1 o2 n0 n1 n2 c0 c1 c2 hm0 hm1 hm2 (fun p y q hy => HIN.out p y q (by rw [HKD.out]; exact hy)) hja (Nat.le_trans hNr hba.size) hpl)
      have HBX := hide hbx
      have HBA := hide hba
      clear hja hba hbx
      gi_wp2_with fail
      first | refine ⟨trivial, (fun h => by cases h), ?_⟩ | refine ⟨(fun h => by cases h), ?_⟩ | refine ⟨trivial, ?_⟩
      refine HEA.out.mono ?_
      rintro e V (⟨rfl, hj, hk⟩ | ⟨rfl, hx⟩)
      · have HV := hide hj
        have HKV := hide hk
        clear hj hk
        gi_wp2
        go_roundw
        case rel =>
          refine ⟨i + 1, hlt, by simp, ?_, HKI.out.trans ((KeptP.of HBA.out).trans (HKV.out.less fun k hk => .inl hk))⟩
          have h8 := HJ.out _ _ (fun k => K k ∨ k = Bs) _ _ (Chg.refl _ _ _) (Nat.le_trans hNr (Nat.le_trans HBA.out.size HKV.out.1)) (fun k hk => .inl (.inl hk)) HV.out
          rw [← HKD.out] at h8
          rw [upto_succ]
          exact h8
        case measure => simp [intOf]; omega
      · have HX := hide hx
        clear hx
        gi_wp2
        refine bodyPost_ret (results_none rfl _ _ _) rfl ?_
        obtain ⟨s, hs⟩ := HX.out
        exact ⟨⟨_, rfl⟩, .inr ⟨_, hs⟩⟩
    · obtain rfl : i = n := by omega
      gi_wp2
      go_end0
      exact ⟨⟨_, rfl⟩, .inl ⟨_, rfl, HJI.out⟩⟩
set_option maxHeartbeats 1000000 in
theorem withinF_2 (o : Option Addr) (n c : Nat) (w : World) :
    Calls Try.prog 119 #[.slice o n c] w fun e w' => e = .returned (.func (.func 120) #[] #[.pointer (some ⟨w.heap.size, 0, none⟩)]) ∧ w' = w.alloc (.cells #[.slice o n c] 205) := by
  go_enter Try.func119, Try.ntmps119
  go_wp2
  go_ret
  exact ⟨rfl, rfl⟩
end Go.Proofs.Ytgeckgdmkjddpaa.Br
