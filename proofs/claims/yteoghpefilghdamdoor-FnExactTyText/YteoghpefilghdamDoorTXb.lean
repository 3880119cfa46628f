/- The model's text of whatever type. -/
import Derived.Test.YteoghpefilghdamDoorTXa
import Derived.Test.YteoghpefilghdamDoorGE
import Derived.Test.YteoghpefilghdamDoorPD
namespace Go.Proofs.YteoghpefilghdamDoor
namespace Tx
open Go.ChangeShapes Go.WideShapes Go.ChangeAt Go.RowKit
set_option linter.unusedVariables false
set_option linter.unusedSimpArgs false

set_option maxHeartbeats 1000000 in
set_option maxRecDepth 100000 in
/-- The digits of whatever number from 0 on. -/
theorem num_big (k : Nat) : ∀ (n : Nat) (w : World), n < 10 ^ k → n ≤ 9223372036854775807 → Calls Tryd.prog 15 #[.int .i64 n] w fun e w' => e = .returned (.string (ofL (Lib.decDigits n))) ∧ Below w.heap.size w w' := by
  induction k with
  | zero =>
    intro n w h0 h1
    exact num_lt (by simp at h0; omega) w
  | succ k ih =>
    intro n w h0 h1
    have IH := hide ih
    clear ih
    by_cases hn : n < 10
    · exact num_lt hn w
    · have hd := dec_len19 (n := n / 10) (by omega)
      have hcall : ∀ W : World, Calls Tryd.prog 15 #[.int .i64 ((n : Int) / 10)] W fun e w' => e = .returned (.string (ofL (Lib.decDigits (n / 10)))) ∧ Below W.heap.size W w' := fun W => IH.out (n / 10) W (by rw [Nat.pow_succ] at h0; omega) (by omega)
      have hsz : (ofL (Lib.decDigits (n / 10))).size ≤ 19 := hd
      generalize hA : ofL (Lib.decDigits (n / 10)) = A at hcall hsz
      have CALL := hide hcall
      have HA := hide hA
      have hlt : ¬ (n : Int) < 10 := by omega
      have hcv := dgs_string n
      have w1 : IntKind.i64.wrap ((n : Int) / 10) = (n : Int) / 10 := by rw [IntKind.wrap_i64]; omega
      have w2 : (n : Int).tmod 10 = (n : Int) % 10 := Int.tmod_eq_emod_of_nonneg (by omega)
      have w3 : IntKind.i64.wrap (48 + (n : Int) % 10) = 48 + (n : Int) % 10 := by rw [IntKind.wrap_i64]; omega
      have w4 : IntKind.u8.wrap (48 + (n : Int) % 10) = 48 + (n : Int) % 10 := by rw [IntKind.wrap_u8]; omega
      clear hcall hA IH
      go_enter Tryd.func15, Tryd.ntmps15
      go_wp2_with fail
      have HC0 : Hid ((w.drew.alloc (.cells #[.int .u8 (48 + (n : Int) % 10)] 5)).cell? ⟨w.heap.size, 0, none⟩ = some (.int .u8 (48 + (n : Int) % 10))) := cell_of (heap_alloc_new w.drew _) 0
      have HL0 : Hid (w.heap.size < (w.drew.alloc (.cells #[.int .u8 (48 + (n : Int) % 10)] 5)).heap.size) := heap_lt (heap_alloc_new w.drew _)
      have cv0 := hcv _ _ HC0.out
      go_region_with (first
        | (go_at_call 15; refine (CALL.out (w.drew.alloc (.cells #[.int .u8 (48 + (n : Int) % 10)] 5))).mono ?_; rintro e w1 ⟨rfl, hb⟩; have HB1 := hide hb; have cv1 := hcv w1 w.heap.size ((hb.cell (p := ⟨w.heap.size, 0, none⟩) HL0.out).trans HC0.out); clear hb)
        | (go_at_call 15; refine (CALL.out w.drew).mono ?_; rintro e w1 ⟨rfl, hb⟩; have HB1 := hide hb; have cv1 := hcv (w1.alloc (.cells #[.int .u8 (48 + (n : Int) % 10)] 5)) w1.heap.size (cell_of (heap_alloc_new w1 _) 0); clear hb))
      all_goals
        go_wp2
        go_ret
        refine ⟨ret_str ?_, ?_⟩
        · rw [← HA.out, dec_big (n := n) hn, ← ofL_append]
          rfl
        · first
          | exact (((Below.refl _ w).drew.alloc (Nat.le_refl _) _).trans (HB1.out.mono (Nat.le_of_lt HL0.out)))
          | exact (((Below.refl _ w).drew.trans HB1.out).alloc ((Below.refl _ w).drew.trans HB1.out).size _)
theorem ret_sb {a b : ByteArray} {c d : Bool} (h : a = b) (k : c = d) : Ending.returned (.tuple #[.string a, .bool c]) = .returned (.tuple #[.string b, .bool d]) := by rw [h, k]
def SpT (h : Nat) : Prop := ∀ (K : Nat → Prop) (x : Tr) (cs : List Value) (w : World) (d : Int), tyR K w h x cs → rg h x → wty h x ≤ 1048576 → 0 ≤ d → d ≤ 13 → Calls Tryd.prog 10 #[.agg cs.toArray, .int .i64 d] w fun e w' => e = .returned (.tuple #[.string (ofL (tm h x d).1), .bool (tm h x d).2]) ∧ Below w.heap.size w w'
set_option maxHeartbeats 2000000 in
set_option maxRecDepth 100000 in
theorem spT_step {h : Nat} (ih : SpT h) : SpT (h + 1) := by
  intro K x cs w d hr hg hw hd0 hd13
  obtain ⟨-, -, -, o, c, rfl, hs, hf, hrow⟩ := hr
  have hl2 : x.l.length ≤ 9223372036854775807 := hf.1
  show Calls Tryd.prog 10 #[.agg #[.int .i64 x.k, .string x.s, .int .i64 x.n, .slice o x.l.length c], .int .i64 d] w _
  have HB0 : Hid (Below w.heap.size w (w.alloc (.cells #[.int .i64 x.k, .string x.s, .int .i64 x.n, .slice o x.l.length c] 29))) := (Below.refl _ w).alloc (Nat.le_refl _) _
  rcases kinds x d with hd | ⟨hd, k⟩ | ⟨hd, k⟩ | ⟨hd, k⟩ | ⟨hd, k, hn⟩ | ⟨hd, k, hn⟩ | ⟨hd, k, hl⟩ | ⟨hd, k⟩ | ⟨hd, k, a, b, hl⟩
  · skip
    have HT := hide (tm_deep (h := h) (t := x) hd)
    clear hrow ih hg hw
    go_enter Tryd.func10, Tryd.ntmps10
    go_wp2
    go_ret2
    exact ⟨ret_sb (by rw [HT.out]; rfl) (by rw [HT.out]), HB0.out⟩
  · skip
    have HT := hide (tm_1 (h := h) hd k)
    rw [k] at HB0 ⊢
    clear k hrow ih hg hw
    go_enter Tryd.func10, Tryd.ntmps10
    go_wp2
    go_ret2
    exact ⟨ret_sb (by rw [HT.out]; rfl) (by rw [HT.out]), HB0.out⟩
  · skip
    have HT := hide (tm_2 (h := h) hd k)
    rw [k] at HB0 ⊢
    clear k hrow ih hg hw
    go_enter Tryd.func10, Tryd.ntmps10
    go_wp2
    go_ret2
    exact ⟨ret_sb (by rw [HT.out]; rfl) (by rw [HT.out]), HB0.out⟩
  · skip
    have HT := hide (tm_3 (h := h) hd k)
    rw [k] at HB0 ⊢
    clear k hrow ih hg hw
    go_enter Tryd.func10, Tryd.ntmps10
    go_wp2
    go_ret2
    exact ⟨ret_sb (by rw [HT.out]; exact (ofL_bl _).symm) (by rw [HT.out]), HB0.out⟩
  · skip
    have HT := hide (tm_5 (h := h) hd k hn)
    obtain ⟨m, hm⟩ : ∃ m : Nat, x.n = m := ⟨x.n.toNat, by omega⟩
    have hm2 : m ≤ 9223372036854775807 := by have := hg.1; omega
    have HM := hide hm
    have hcall := fun W : World => num_big 19 m W (by omega) hm2
    have hsz : (ofL (Lib.decDigits m)).size ≤ 19 := dec_len19 hm2
    have HRES : Hid (⟨#[116]⟩ ++ ofL (Lib.decDigits m) = ofL (tm (h + 1) x d).1) := by
      apply eq_ofL
      rw [HT.out, hm]
      rfl
    have HRB : Hid ((tm (h + 1) x d).2 = true) := by rw [HT.out]; rfl
    rw [k, hm] at HB0 ⊢
    generalize ofL (Lib.decDigits m) = S at hcall hsz HRES
    have CALL := hide hcall
    have hge : decide (0 ≤ (m : Int)) = true := decide_eq_true (by omega)
    have z1 : (⟨#[116]⟩ ++ S).size = 1 + S.size := app_size _ _
    clear k hrow ih hg hw hm hn hcall HT HM
    go_enter Tryd.func10, Tryd.ntmps10
    go_wp2_with fail
    refine (CALL.out _).mono ?_
    rintro e w1 ⟨rfl, hb1⟩
    have HB1 := hide (HB0.out.trans (hb1.mono HB0.out.size))
    clear hb1
    go_wp2
    go_ret2
    exact ⟨ret_sb HRES.out HRB.out.symm, HB1.out⟩
  · skip
    have HT := hide (tm_none (h := h) (t := x) hd (by omega) (by omega) (by omega) (by omega) (by omega))
    rw [k] at HB0 ⊢
    have hge : decide (0 ≤ x.n) = false := decide_eq_false (by omega)
    clear k hrow ih hg hw
    go_enter Tryd.func10, Tryd.ntmps10
    go_wp2
    go_ret2
    exact ⟨ret_sb (by rw [HT.out]; rfl) (by rw [HT.out]), HB0.out⟩
  · skip
    have HT := hide (tm_none (h := h) (t := x) hd (by omega) (by omega) (by omega) (by omega) (fun x => hl x.2))
    rw [k] at HB0 ⊢
    have e1 : ((x.l.length : Int) == 2) = false := by
      rw [beq_eq_false_iff_ne]
      omega
    clear k hrow ih hg hw
    go_enter Tryd.func10, Tryd.ntmps10
    go_wp2
    go_ret2
    exact ⟨ret_sb (by rw [HT.out]; rfl) (by rw [HT.out]), HB0.out⟩
  · skip
    have HT := hide (tm_none (h := h) (t := x) hd k.1 k.2.1 k.2.2.1 (fun x => k.2.2.2.2 x.1) (fun x => k.2.2.2.1 x.1))
    obtain ⟨k1, k2, k3, k4, k5⟩ := k
    have e1 : (x.k == 1) = false := by simpa using k1
    have e2 : (x.k == 2) = false := by simpa using k2
    have e3 : (x.k == 3) = false := by simpa using k3
    have e4 : (x.k == 4) = false := by simpa using k4
    have e5 : (x.k == 5) = false := by simpa using k5
    clear hrow ih hg hw k1 k2 k3 k4 k5
    go_enter Tryd.func10, Tryd.ntmps10
    go_wp2
    go_ret2
    exact ⟨ret_sb (by rw [HT.out]; rfl) (by rw [HT.out]), HB0.out⟩
  · skip
    have HT := hide (tm_4 (h := h) hd k hl)
    have hll : x.l.length = 2 := by rw [hl]; rfl
    obtain ⟨ga, gb⟩ := rg_4 hg hl
    rw [wty_4 hl] at hw
    rw [hl] at hrow
    obtain ⟨bb, off, rfl, -, hbl, hcs⟩ := hrow (by simp)
    obtain ⟨_, -, kA, rA⟩ := hcs 0 a rfl
    obtain ⟨oa, na, rfl⟩ := ty_form rA
    obtain ⟨_, -, kB, rB⟩ := hcs 1 b rfl
    obtain ⟨ob, nb, rfl⟩ := ty_form rB
    have la := tm_len h a (d + 1) ga
    have lb := tm_len h b (d + 1) gb
    have wa : wty h a ≤ 1048576 := by omega
    have wb : wty h b ≤ 1048576 := by omega
    rw [k, hll] at HB0 ⊢
    have HX0 : Hid ((w.alloc (.cells #[.int .i64 4, .string x.s, .int .i64 x.n, .slice (some ⟨bb, off, none⟩) 2 c] 29)).heap[w.heap.size]? = some (.cells #[.int .i64 4, .string x.s, .int .i64 x.n, .slice (some ⟨bb, off, none⟩) 2 c] 29 (0, 0))) := heap_alloc_new w _
    have a0 := kA 0 _ rfl
    have a1 := kA 1 _ rfl
    have a2 := kA 2 _ rfl
    have a3 := kA 3 _ rfl
    have b0 := kB 0 _ rfl
    have b1 := kB 1 _ rfl
    have b2 := kB 2 _ rfl
    have b3 := kB 3 _ rfl
    simp only [Nat.zero_mul, Nat.one_mul, Nat.add_zero] at a0 a1 a2 a3 b0 b1 b2 b3
    have A0 := (HB0.out.cell (p := ⟨bb, off, none⟩) hbl).trans a0
    have A1 := (HB0.out.cell (p := ⟨bb, off + 1, none⟩) hbl).trans a1
    have A2 := (HB0.out.cell (p := ⟨bb, off + 2, none⟩) hbl).trans a2
    have A3 := (HB0.out.cell (p := ⟨bb, off + 3, none⟩) hbl).trans a3
    have RA := hide rA
    have RB := hide rB
    have GA := hide ga
    have GB := hide gb
    have IH := hide ih
    have wd : IntKind.i64.wrap (d + 1) = d + 1 := by rw [IntKind.wrap_i64]; omega
    have Az : (ofL (tm h a (d + 1)).1).size ≤ 30000000 := by rw [ofL_size]; omega
    have Bz : (ofL (tm h b (d + 1)).1).size ≤ 30000000 := by rw [ofL_size]; omega
    have HOK : Hid ((tm (h + 1) x d).2 = ((tm h a (d + 1)).2 && (tm h b (d + 1)).2)) := by rw [HT.out]; rfl
    have HTX : Hid ((tm (h + 1) x d).1 = brL (decide (a.k = 4)) (tm h a (d + 1)).1 ++ ([32, 45, 62, 32] ++ (tm h b (d + 1)).1)) := by rw [HT.out]; rfl
    clear k hl hll hcs kA kB rA rB ih hf hl2 hg ga gb la lb hw
    go_enter Tryd.func10, Tryd.ntmps10
    go_wp2_with fail
    refine (IH.out K a _ _ (d + 1) (tyR_later HB0.out h _ _ RA.out) GA.out wa (by omega) (by omega)).mono ?_
    rintro e w1 ⟨rfl, hb1⟩
    have HB1 := hide (HB0.out.trans (hb1.mono HB0.out.size))
    have HX1 := hide ((hb1.block w.heap.size (heap_lt HX0.out)).trans HX0.out)
    clear hb1 A0 A1 A2 A3
    have x3 := cell_of HX1.out 3
    simp only [List.getElem?_toArray, List.getElem?_cons_succ, List.getElem?_cons_zero] at x3
    have B0 := (HB1.out.cell (p := ⟨bb, off + 4, none⟩) hbl).trans b0
    have B1 := (HB1.out.cell (p := ⟨bb, off + 4 + 1, none⟩) hbl).trans b1
    have B2 := (HB1.out.cell (p := ⟨bb, off + 4 + 2, none⟩) hbl).trans b2
    have B3 := (HB1.out.cell (p := ⟨bb, off + 4 + 3, none⟩) hbl).trans b3
    go_wp2_with fail
    refine (IH.out K b _ _ (d + 1) (tyR_later HB1.out h _ _ RB.out) GB.out wb (by omega) (by omega)).mono ?_
    rintro e w2 ⟨rfl, hb1⟩
    have HB2 := hide (HB1.out.trans (hb1.mono HB1.out.size))
    have HX2 := hide ((hb1.block w.heap.size (heap_lt HX1.out)).trans HX1.out)
    clear hb1 B0 B1 B2 B3 x3
    have x3 := cell_of HX2.out 3
    simp only [List.getElem?_toArray, List.getElem?_cons_succ, List.getElem?_cons_zero] at x3
    have A0 := (HB2.out.cell (p := ⟨bb, off, none⟩) hbl).trans a0
    generalize tm h a (d + 1) = TA at HOK HTX Az
    generalize tm h b (d + 1) = TB at HOK HTX Bz
    obtain ⟨ta, ka⟩ := TA
    obtain ⟨tb, kb⟩ := TB
    by_cases hk4 : a.k = 4
    · have e4 : (a.k == 4) = true := by rw [hk4]; rfl
      have HRES : Hid (⟨#[40]⟩ ++ ofL ta ++ ⟨#[41]⟩ ++ ⟨#[32, 45, 62, 32]⟩ ++ ofL tb = ofL (tm (h + 1) x d).1) := by
        apply eq_ofL
        rw [HTX.out]
        unfold brL
        rw [decide_eq_true hk4]
        simp only [bl_append, bl_ofL, bl_mk, if_true, List.append_assoc, List.cons_append, List.nil_append]
      clear HTX HT
      simp only [] at Az Bz HOK
      generalize ofL ta = A at HRES Az ⊢
      generalize ofL tb = B at HRES Bz ⊢
      have z1 : (⟨#[40]⟩ ++ A).size = 1 + A.size := app_size _ _
      have z2 : (⟨#[40]⟩ ++ A ++ ⟨#[41]⟩).size = 1 + A.size + 1 := (app_size _ _).trans (by rw [z1]; rfl)
      have z3 : (⟨#[40]⟩ ++ A ++ ⟨#[41]⟩ ++ ⟨#[32, 45, 62, 32]⟩).size = 1 + A.size + 1 + 4 := (app_size _ _).trans (by rw [z2]; rfl)
      clear hk4
      cases ka
      all_goals
        go_wp2
        go_ret2
        exact ⟨ret_sb HRES.out HOK.out.symm, HB2.out⟩
    · have e4 : (a.k == 4) = false := by simpa using hk4
      have HRES : Hid (ofL ta ++ ⟨#[32, 45, 62, 32]⟩ ++ ofL tb = ofL (tm (h + 1) x d).1) := by
        apply eq_ofL
        rw [HTX.out]
        unfold brL
        rw [decide_eq_false hk4]
        simp only [bl_append, bl_ofL, bl_mk, Bool.false_eq_true, if_false, List.append_assoc, List.cons_append, List.nil_append]
      clear HTX HT
      simp only [] at Az Bz HOK
      generalize ofL ta = A at HRES Az ⊢
      generalize ofL tb = B at HRES Bz ⊢
      have z1 : (A ++ ⟨#[32, 45, 62, 32]⟩).size = A.size + 4 := app_size _ _
      clear hk4
      cases ka
      all_goals
        go_wp2
        go_ret2
        exact ⟨ret_sb HRES.out HOK.out.symm, HB2.out⟩
theorem spT_all (h : Nat) : SpT h := by
  induction h with
  | zero => exact fun _ _ _ _ _ hr => hr.elim
  | succ h ih => exact spT_step ih
/-- What TyText answers. -/
def tyTx (h : Nat) (x : Tr) : ByteArray := if (tm h x 1).2 = true then ofL (tm h x 1).1 else ⟨#[]⟩
set_option maxHeartbeats 1000000 in
theorem specTyTx_any {K : Nat → Prop} {w : World} {h : Nat} {x : Tr} {cs : List Value} (hr : tyR K w h x cs) (hg : rg h x) (hw : wty h x ≤ 1048576) :
    Calls Tryd.prog 5 #[.agg cs.toArray] w fun e w' => e = .returned (.string (tyTx h x)) ∧ Below w.heap.size w w' := by
  obtain ⟨o, c, rfl⟩ := ty_form hr
  have HR := hide hr
  have HG := hide hg
  have HB0 : Hid (Below w.heap.size w (w.alloc (.cells #[.int .i64 x.k, .string x.s, .int .i64 x.n, .slice o x.l.length c] 29))) := (Below.refl _ w).alloc (Nat.le_refl _) _
  clear hr hg
  go_enter Tryd.func5, Tryd.ntmps5
  go_wp2_with fail
  refine (spT_all h K x _ _ 1 (tyR_later HB0.out h _ _ HR.out) HG.out hw (by omega) (by omega)).mono ?_
  rintro e w1 ⟨rfl, hb⟩
  have HB1 := hide (HB0.out.trans (hb.mono HB0.out.size))
  clear hb
  have HE : Hid (tyTx h x = if (tm h x 1).2 = true then ofL (tm h x 1).1 else ⟨#[]⟩) := rfl
  generalize tm h x 1 = T at HE
  obtain ⟨t, k⟩ := T
  cases k
  · go_wp2
    go_ret
    exact ⟨ret_str (by rw [HE.out]; rfl), HB1.out⟩
  · go_wp2
    go_ret
    exact ⟨ret_str (by rw [HE.out]; rfl), HB1.out⟩
end Tx
end Go.Proofs.YteoghpefilghdamDoor
