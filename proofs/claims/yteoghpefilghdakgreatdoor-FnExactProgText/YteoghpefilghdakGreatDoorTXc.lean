/- The program's text of whatever type. -/
import Derived.Test.YteoghpefilghdakGreatDoorTXa
import Derived.Test.YteoghpefilghdakGreatDoorGH
namespace Go.Proofs.YteoghpefilghdakGreatDoor
namespace Tx
open Go.ChangeShapes Go.WideShapes Go.ChangeAt Go.RowKit
set_option linter.unusedVariables false
set_option linter.unusedSimpArgs false

theorem put2g (B b : Nat) (l : List UInt8) (s t : ByteArray) (w : World) (g : Nat) (h : Pg B b l w) (hg : g = w.heap.size) (hlen : l.length + s.size + t.size ≤ 100000000) :
    Calls Tryz.prog 36 #[.pointer (some ⟨b, 0, none⟩), .slice (some ⟨g, 0, none⟩) 2 2] (w.alloc (.cells #[.string s, .string t] 9)) fun e w' => e = .returned (.tuple #[]) ∧ Pg B b (l ++ (bl s ++ bl t)) w' ∧ Fr B b w w' := by
  subst hg
  exact put2 B b l s t w h hlen
theorem itoa_big (B : Nat) (m : Nat) (w : World) (h : Tb B w) (hm : m ≤ 9223372036854775807) : Calls Tryz.prog 97 #[.int .i64 m] w fun e w' => e = .returned (.string (ofL (Lib.decDigits m))) ∧ Below w.heap.size w w' := by
  have key := Tryz.strconv_Itoa m (by omega) (by omega) w h.here
  refine key.mono ?_
  rintro e w' ⟨rfl, k, os, rfl⟩
  refine ⟨?_, ?_⟩
  · unfold Lib.itoa
    rw [if_neg (by omega)]
    rfl
  · exact Lib.below_grow _ w (Nat.le_refl _) _ os
theorem tyR_fr {B b : Nat} {w w' : World} (h : Fr B b w w') (n : Nat) : ∀ x cs, tyR (LtK B) w n x cs → tyR (LtK B) w' n x cs := tyR_frame h.stays (fun _ h => h) n
def WrB (B b : Nat) (l : List UInt8) (t : List UInt8 × Bool) (w : World) (e : Ending) (w' : World) : Prop := e = .returned (.bool t.2) ∧ Pg B b (l ++ t.1) w' ∧ Fr B b w w'
def PxT (h : Nat) : Prop := ∀ (x : Tr) (cs : List Value) (w : World) (B b : Nat) (l : List UInt8) (d : Int), tyR (LtK B) w h x cs → rg h x → Pg B b l w → Tb B w → 0 ≤ d → d ≤ 13 → l.length + (tw h x d).1.length ≤ 90000000 → Calls Tryz.prog 66 #[.pointer (some ⟨b, 0, none⟩), .agg cs.toArray, .int .i64 d] w (WrB B b l (tw h x d) w)
def PxP (h : Nat) : Prop := ∀ (x : Tr) (cs : List Value) (w : World) (B b : Nat) (l : List UInt8) (d : Int), tyR (LtK B) w h x cs → rg h x → Pg B b l w → Tb B w → 0 ≤ d → d ≤ 13 → l.length + (tpw h x d).1.length ≤ 90000000 → Calls Tryz.prog 37 #[.pointer (some ⟨b, 0, none⟩), .agg cs.toArray, .int .i64 d] w (WrB B b l (tpw h x d) w)
set_option maxHeartbeats 1000000 in
set_option maxRecDepth 100000 in
theorem tyPart_of {h : Nat} (hT : PxT h) : PxP h := by
  intro x cs w B b l d hr hg hpg htb hd0 hd13 hlen
  obtain ⟨o, c, rfl⟩ := ty_form hr
  have S0 := hide (Stp.first hpg #[.int .i64 x.k, .string x.s, .int .i64 x.n, .slice o x.l.length c] 81)
  have HR := hide hr
  have HG := hide hg
  have HT := hide hT
  have TB := hide htb
  clear hr hg hT hpg htb
  have y0 := cell_of S0.out.bx 0
  have y1 := cell_of S0.out.bx 1
  have y2 := cell_of S0.out.bx 2
  have y3 := cell_of S0.out.bx 3
  simp only [List.getElem?_toArray, List.getElem?_cons_succ, List.getElem?_cons_zero] at y0 y1 y2 y3
  by_cases hk : x.k = 4
  · have e4 : (x.k != 4) = false := by rw [hk]; rfl
    have e5 : (x.k == 4) = true := by rw [hk]; rfl
    have hE : tpw h x d = (40 :: ((tw h x d).1 ++ [41]), (tw h x d).2) := by unfold tpw brL; rw [decide_eq_true hk]; rfl
    rw [hE] at hlen ⊢
    simp only [List.length_append, List.length_cons, List.length_nil] at hlen
    clear hE hk
    go_enter Tryz.func37, Tryz.ntmps37
    go_wp2_with fail
    refine (put1g B b l ⟨#[40]⟩ (w.alloc (.cells #[.int .i64 x.k, .string x.s, .int .i64 x.n, .slice o x.l.length c] 81)) _ S0.out.pg (by first | rfl | simp) (by show l.length + 1 ≤ _; omega)).mono ?_
    rintro e w1 ⟨rfl, h1, f1⟩
    have S1 := hide (S0.out.next h1 f1 (by decide) (by decide))
    clear h1 f1 y0 y1 y2 y3
    have y0 := cell_of S1.out.bx 0
    have y1 := cell_of S1.out.bx 1
    have y2 := cell_of S1.out.bx 2
    have y3 := cell_of S1.out.bx 3
    simp only [List.getElem?_toArray, List.getElem?_cons_succ, List.getElem?_cons_zero] at y0 y1 y2 y3
    go_wp2_with fail
    refine (HT.out x _ w1 B b _ d (tyR_fr S1.out.fr h _ _ HR.out) HG.out S1.out.pg (TB.out.on S1.out.fr.below) hd0 hd13 (by simp only [List.length_append, bl_len, lit_size, List.size_toArray, List.length_cons, List.length_nil]; omega)).mono ?_
    rintro e w2 ⟨rfl, h1, f1⟩
    have S2 := hide (S1.out.next h1 f1 (by decide) (by decide))
    clear h1 f1 y0 y1 y2 y3
    go_wp2_with fail
    refine (put1 B b _ ⟨#[41]⟩ w2 S2.out.pg (by simp only [List.length_append, bl_len, lit_size, List.size_toArray, List.length_cons, List.length_nil]; omega)).mono ?_
    rintro e w3 ⟨rfl, h1, f1⟩
    have S3 := hide (S2.out.next h1 f1 (by decide) (by decide))
    clear h1 f1
    go_wp2
    go_ret
    refine ⟨rfl, ?_, S3.out.fr⟩
    have key := S3.out.pg
    have hE : l ++ bl ⟨#[40]⟩ ++ (tw h x d).1 ++ bl ⟨#[41]⟩ = l ++ (40 :: ((tw h x d).1 ++ [41])) := by simp only [bl_mk, List.append_assoc, List.cons_append, List.nil_append]
    rw [hE] at key
    exact key
  · have e4 : (x.k != 4) = true := by simpa using hk
    have e5 : (x.k == 4) = false := by simpa using hk
    have hE : tpw h x d = tw h x d := by unfold tpw brL; rw [decide_eq_false hk]; rfl
    rw [hE] at hlen ⊢
    clear hE hk
    go_enter Tryz.func37, Tryz.ntmps37
    go_wp2_with fail
    refine (HT.out x _ _ B b _ d (tyR_fr S0.out.fr h _ _ HR.out) HG.out S0.out.pg (TB.out.on S0.out.fr.below) hd0 hd13 hlen).mono ?_
    rintro e w2 ⟨rfl, h1, f1⟩
    have S2 := hide (S0.out.next h1 f1 (by decide) (by decide))
    clear h1 f1 y0 y1 y2 y3
    go_wp2
    go_ret
    exact ⟨rfl, S2.out.pg, S2.out.fr⟩
theorem WrB.of {B b : Nat} {l : List UInt8} {t : List UInt8 × Bool} {w : World} {u : List UInt8} {k : Bool} {e : Ending} {w' : World} (ht : t = (u, k)) (he : e = .returned (.bool k)) (hp : Pg B b (l ++ u) w') (hf : Fr B b w w') : WrB B b l t w e w' := by
  subst ht
  exact ⟨he, hp, hf⟩
set_option maxHeartbeats 2000000 in
set_option maxRecDepth 100000 in
theorem pT_step {h : Nat} (hT : PxT h) : PxT (h + 1) := by
  intro x cs w B b l d hr hg hpg htb hd0 hd13 hlen
  have HT := hide hT
  have HP := hide (tyPart_of hT)
  have TB := hide htb
  obtain ⟨-, -, -, o, c, rfl, hs, hf, hrow⟩ := hr
  have hl2 : x.l.length ≤ 9223372036854775807 := hf.1
  clear hT htb
  show Calls Tryz.prog 66 #[.pointer (some ⟨b, 0, none⟩), .agg #[.int .i64 x.k, .string x.s, .int .i64 x.n, .slice o x.l.length c], .int .i64 d] w _
  rcases kinds x d with hd | ⟨hd, k⟩ | ⟨hd, k⟩ | ⟨hd, k⟩ | ⟨hd, k, hn⟩ | ⟨hd, k, hn⟩ | ⟨hd, k, hl⟩ | ⟨hd, k⟩ | ⟨hd, k, p, q, hl⟩
  · skip
    have HTX := hide (tw_deep (h := h) (t := x) hd)
    have S0 := hide (Stp.first hpg #[.int .i64 x.k, .string x.s, .int .i64 x.n, .slice o x.l.length c] 81)
    clear hrow hpg hg hlen
    go_enter Tryz.func66, Tryz.ntmps66
    go_wp2
    go_ret
    exact WrB.of HTX.out rfl (by rw [List.append_nil]; exact S0.out.pg) S0.out.fr
  · skip
    have HTX := hide (tw_1 (h := h) hd k)
    rw [HTX.out] at hlen
    rw [k]
    have S0 := hide (Stp.first hpg #[.int .i64 1, .string x.s, .int .i64 x.n, .slice o x.l.length c] 81)
    simp only [List.length_cons, List.length_nil] at hlen
    clear k hrow hpg hg
    go_enter Tryz.func66, Tryz.ntmps66
    go_wp2_with fail
    refine (put1g B b l ⟨#[73, 110, 116]⟩ (w.alloc (.cells #[.int .i64 1, .string x.s, .int .i64 x.n, .slice o x.l.length c] 81)) _ S0.out.pg (by first | rfl | simp) (by show l.length + 3 ≤ _; omega)).mono ?_
    rintro e w1 ⟨rfl, h1, f1⟩
    have S1 := hide (S0.out.next h1 f1 (by decide) (by decide))
    clear h1 f1
    go_wp2
    go_ret
    exact WrB.of HTX.out rfl S1.out.pg S1.out.fr
  · skip
    have HTX := hide (tw_2 (h := h) hd k)
    rw [HTX.out] at hlen
    rw [k]
    have S0 := hide (Stp.first hpg #[.int .i64 2, .string x.s, .int .i64 x.n, .slice o x.l.length c] 81)
    simp only [List.length_cons, List.length_nil] at hlen
    clear k hrow hpg hg
    go_enter Tryz.func66, Tryz.ntmps66
    go_wp2_with fail
    refine (put1g B b l ⟨#[66, 111, 111, 108]⟩ (w.alloc (.cells #[.int .i64 2, .string x.s, .int .i64 x.n, .slice o x.l.length c] 81)) _ S0.out.pg (by first | rfl | simp) (by show l.length + 4 ≤ _; omega)).mono ?_
    rintro e w1 ⟨rfl, h1, f1⟩
    have S1 := hide (S0.out.next h1 f1 (by decide) (by decide))
    clear h1 f1
    go_wp2
    go_ret
    exact WrB.of HTX.out rfl S1.out.pg S1.out.fr
  · skip
    have HTX := hide (tw_3 (h := h) hd k)
    rw [HTX.out] at hlen
    have hlen2 : l.length + x.s.size ≤ 90000000 := by rw [← bl_len]; exact hlen
    rw [k]
    have S0 := hide (Stp.first hpg #[.int .i64 3, .string x.s, .int .i64 x.n, .slice o x.l.length c] 81)
    clear k hrow hpg hg hlen
    go_enter Tryz.func66, Tryz.ntmps66
    go_wp2_with fail
    refine (put1g B b l x.s (w.alloc (.cells #[.int .i64 3, .string x.s, .int .i64 x.n, .slice o x.l.length c] 81)) _ S0.out.pg (by first | rfl | simp) (by omega)).mono ?_
    rintro e w1 ⟨rfl, h1, f1⟩
    have S1 := hide (S0.out.next h1 f1 (by decide) (by decide))
    clear h1 f1
    go_wp2
    go_ret
    exact WrB.of HTX.out rfl S1.out.pg S1.out.fr
  · skip
    have HTX := hide (tw_5 (h := h) hd k hn)
    obtain ⟨m, hm⟩ : ∃ m : Nat, x.n = m := ⟨x.n.toNat, by omega⟩
    have hm2 : m ≤ 9223372036854775807 := by have := hg.1; omega
    have hd19 := dec_len19 hm2
    rw [HTX.out, hm] at hlen
    simp only [List.length_cons, Int.toNat_natCast] at hlen
    have HTY : Hid (tw (h + 1) x d = (116 :: Lib.decDigits m, true)) := by rw [HTX.out, hm]; rfl
    rw [k, hm]
    have S0 := hide (Stp.first hpg #[.int .i64 5, .string x.s, .int .i64 (m : Int), .slice o x.l.length c] 81)
    have hge : decide (0 ≤ (m : Int)) = true := decide_eq_true (by omega)
    clear k hrow hpg hg hm hn HTX
    have y2 := cell_of S0.out.bx 2
    simp only [List.getElem?_toArray, List.getElem?_cons_succ, List.getElem?_cons_zero] at y2
    go_enter Tryz.func66, Tryz.ntmps66
    go_wp2_with fail
    refine (itoa_big B m _ (TB.out.on S0.out.fr.below) hm2).mono ?_
    rintro e w1 ⟨rfl, hb⟩
    have S1 := hide (S0.out.next (S0.out.pg.later hb) (Fr.of hb S0.out.pg.2) (by decide) (by decide))
    clear hb y2
    go_wp2_with fail
    refine (put2g B b l ⟨#[116]⟩ (ofL (Lib.decDigits m)) w1 _ S1.out.pg (by first | rfl | simp) (by rw [ofL_size]; show l.length + 1 + _ ≤ _; omega)).mono ?_
    rintro e w2 ⟨rfl, h1, f1⟩
    have S2 := hide (S1.out.next h1 f1 (by decide) (by decide))
    clear h1 f1
    go_wp2
    go_ret
    refine WrB.of HTY.out rfl ?_ S2.out.fr
    have key := S2.out.pg
    rw [bl_ofL] at key
    exact key
  · skip
    have HTX := hide (tw_none (h := h) (t := x) hd (by omega) (by omega) (by omega) (by omega) (by omega))
    rw [k]
    have S0 := hide (Stp.first hpg #[.int .i64 5, .string x.s, .int .i64 x.n, .slice o x.l.length c] 81)
    have hge : decide (0 ≤ x.n) = false := decide_eq_false (by omega)
    clear hrow hpg hg hlen k
    go_enter Tryz.func66, Tryz.ntmps66
    go_wp2
    go_ret
    exact WrB.of HTX.out rfl (by rw [List.append_nil]; exact S0.out.pg) S0.out.fr
  · skip
    have HTX := hide (tw_none (h := h) (t := x) hd (by omega) (by omega) (by omega) (by omega) (fun x => hl x.2))
    rw [k]
    have S0 := hide (Stp.first hpg #[.int .i64 4, .string x.s, .int .i64 x.n, .slice o x.l.length c] 81)
    have e1 : ((x.l.length : Int) == 2) = false := by
      rw [beq_eq_false_iff_ne]
      omega
    clear hrow hpg hg hlen k
    go_enter Tryz.func66, Tryz.ntmps66
    go_wp2
    go_ret
    exact WrB.of HTX.out rfl (by rw [List.append_nil]; exact S0.out.pg) S0.out.fr
  · skip
    have HTX := hide (tw_none (h := h) (t := x) hd k.1 k.2.1 k.2.2.1 (fun x => k.2.2.2.2 x.1) (fun x => k.2.2.2.1 x.1))
    have S0 := hide (Stp.first hpg #[.int .i64 x.k, .string x.s, .int .i64 x.n, .slice o x.l.length c] 81)
    obtain ⟨k1, k2, k3, k4, k5⟩ := k
    have e1 : (x.k == 1) = false := by simpa using k1
    have e2 : (x.k == 2) = false := by simpa using k2
    have e3 : (x.k == 3) = false := by simpa using k3
    have e4 : (x.k == 4) = false := by simpa using k4
    have e5 : (x.k == 5) = false := by simpa using k5
    clear hrow hpg hg hlen k1 k2 k3 k4 k5
    go_enter Tryz.func66, Tryz.ntmps66
    go_wp2
    go_ret
    exact WrB.of HTX.out rfl (by rw [List.append_nil]; exact S0.out.pg) S0.out.fr
  · skip
    have HTX := hide (tw_4 (h := h) hd k hl)
    rw [HTX.out] at hlen
    have hll : x.l.length = 2 := by rw [hl]; rfl
    obtain ⟨gp, gq⟩ := rg_4 hg hl
    rw [hl] at hrow
    obtain ⟨bb, off, rfl, hKb, hbl, hcs⟩ := hrow (by simp)
    obtain ⟨_, -, kA, rA⟩ := hcs 0 p rfl
    obtain ⟨oa, ga, rfl⟩ := ty_form rA
    obtain ⟨_, -, kB, rB⟩ := hcs 1 q rfl
    obtain ⟨ob, gb, rfl⟩ := ty_form rB
    rw [k, hll]
    have S0 := hide (Stp.first hpg #[.int .i64 4, .string x.s, .int .i64 x.n, .slice (some ⟨bb, off, none⟩) 2 c] 81)
    have a0 := kA 0 _ rfl
    have a1 := kA 1 _ rfl
    have a2 := kA 2 _ rfl
    have a3 := kA 3 _ rfl
    have b0 := kB 0 _ rfl
    have b1 := kB 1 _ rfl
    have b2 := kB 2 _ rfl
    have b3 := kB 3 _ rfl
    simp only [Nat.zero_mul, Nat.one_mul, Nat.add_zero] at a0 a1 a2 a3 b0 b1 b2 b3
    have A0 := (S0.out.fr.below.cell (p := ⟨bb, off, none⟩) hKb).trans a0
    have A1 := (S0.out.fr.below.cell (p := ⟨bb, off + 1, none⟩) hKb).trans a1
    have A2 := (S0.out.fr.below.cell (p := ⟨bb, off + 2, none⟩) hKb).trans a2
    have A3 := (S0.out.fr.below.cell (p := ⟨bb, off + 3, none⟩) hKb).trans a3
    have RA := hide rA
    have RB := hide rB
    have GP := hide gp
    have GQ := hide gq
    have wd : IntKind.i64.wrap (d + 1) = d + 1 := by rw [IntKind.wrap_i64]; omega
    have hlenA : l.length + (tpw h p (d + 1)).1.length ≤ 90000000 := by
      by_cases hc : (tw h p (d + 1)).2 = true
      · rw [if_pos hc] at hlen
        simp only [List.length_append] at hlen
        omega
      · rw [if_neg hc] at hlen
        exact hlen
    have HPO : Hid ((tpw h p (d + 1)).2 = (tw h p (d + 1)).2) := rfl
    clear k hl hll hcs kA kB rA rB hpg hf hg gp gq
    go_enter Tryz.func66, Tryz.ntmps66
    go_wp2_with fail
    refine (HP.out p _ _ B b _ (d + 1) (tyR_fr S0.out.fr h _ _ RA.out) GP.out S0.out.pg (TB.out.on S0.out.fr.below) (by omega) (by omega) hlenA).mono ?_
    rintro e w1 ⟨rfl, h1, f1⟩
    have S1 := hide (S0.out.next h1 f1 (by decide) (by decide))
    clear h1 f1 A0 A1 A2 A3
    rw [HPO.out]
    cases hok : (tw h p (d + 1)).2 with
    | false =>
      have HE : Hid (tw (h + 1) x d = ((tpw h p (d + 1)).1, false)) := by rw [HTX.out, hok]; rfl
      clear hok hlen hlenA HTX
      go_wp2
      go_ret
      exact WrB.of HE.out rfl S1.out.pg S1.out.fr
    | true =>
      have HE : Hid (tw (h + 1) x d = ((tpw h p (d + 1)).1 ++ ([32, 45, 62, 32] ++ (tw h q (d + 1)).1), (tw h q (d + 1)).2)) := by rw [HTX.out, hok]; rfl
      rw [if_pos hok] at hlen
      simp only [List.length_append, List.length_cons, List.length_nil] at hlen
      clear hok hlenA HTX
      go_wp2_with fail
      refine (put1 B b _ ⟨#[32, 45, 62, 32]⟩ w1 S1.out.pg (by simp only [List.length_append, bl_len, lit_size, List.size_toArray, List.length_cons, List.length_nil]; omega)).mono ?_
      rintro e w2 ⟨rfl, h1, f1⟩
      have S2 := hide (S1.out.next h1 f1 (by decide) (by decide))
      clear h1 f1
      have y3 := cell_of S2.out.bx 3
      simp only [List.getElem?_toArray, List.getElem?_cons_succ, List.getElem?_cons_zero] at y3
      have B0 := (S2.out.fr.below.cell (p := ⟨bb, off + 4, none⟩) hKb).trans b0
      have B1 := (S2.out.fr.below.cell (p := ⟨bb, off + 4 + 1, none⟩) hKb).trans b1
      have B2 := (S2.out.fr.below.cell (p := ⟨bb, off + 4 + 2, none⟩) hKb).trans b2
      have B3 := (S2.out.fr.below.cell (p := ⟨bb, off + 4 + 3, none⟩) hKb).trans b3
      go_wp2_with fail
      refine (HT.out q _ w2 B b _ (d + 1) (tyR_fr S2.out.fr h _ _ RB.out) GQ.out S2.out.pg (TB.out.on S2.out.fr.below) (by omega) (by omega) (by simp only [List.length_append, bl_len, lit_size, List.size_toArray, List.length_cons, List.length_nil]; omega)).mono ?_
      rintro e w3 ⟨rfl, h1, f1⟩
      have S3 := hide (S2.out.next h1 f1 (by decide) (by decide))
      clear h1 f1 B0 B1 B2 B3 y3
      go_wp2
      go_ret
      refine WrB.of HE.out rfl ?_ S3.out.fr
      have key := S3.out.pg
      have hE : l ++ (tpw h p (d + 1)).1 ++ bl ⟨#[32, 45, 62, 32]⟩ ++ (tw h q (d + 1)).1 = l ++ ((tpw h p (d + 1)).1 ++ ([32, 45, 62, 32] ++ (tw h q (d + 1)).1)) := by simp only [bl_mk, List.append_assoc, List.cons_append, List.nil_append]
      rw [hE] at key
      exact key
theorem pT_all (h : Nat) : PxT h := by
  induction h with
  | zero => exact fun _ _ _ _ _ _ _ hr => hr.elim
  | succ h ih => exact pT_step ih
end Tx
end Go.Proofs.YteoghpefilghdakGreatDoor
