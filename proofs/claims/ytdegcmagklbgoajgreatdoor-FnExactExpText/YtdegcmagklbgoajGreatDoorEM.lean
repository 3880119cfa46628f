/- The program's patterns, alternatives, definitions; ExpText whole. -/
import Derived.Test.YtdegcmagklbgoajGreatDoorEL
import Derived.Test.YtdegcmagklbgoajGreatDoorEF
import Derived.Test.YtdegcmagklbgoajGreatDoorYP
namespace Go.Proofs.YtdegcmagklbgoajGreatDoor
open Go.ChangeShapes Go.WideShapes Go.ChangeAt Go.RowKit
set_option linter.unusedVariables false
set_option linter.unusedSimpArgs false

set_option maxHeartbeats 1000000 in
set_option maxRecDepth 100000 in
theorem pat_any (B b : Nat) (l : List UInt8) (x : Tr) (o : Option Addr) (c : Nat) (v0 v1 v2 v3 v4 v5 : Value) (w : World) (hpg : Pg B b l w) (hm : RowOf (LtK B) w strR 1 o x.ss) (hab : altB x = true) (hlen : l.length + (headL x.s x.ss).length ≤ 10000000) :
    Calls Tryz.prog 221 #[.pointer (some ⟨b, 0, none⟩), .agg #[.string x.s, .slice o x.ss.length c, v0, v1, v2, v3, v4, v5]] w (Wr B b l (headL x.s x.ss) w) := by
  have hal := alt_of hab
  have S0 := hide (Stp.first hpg #[.string x.s, .slice o x.ss.length c, v0, v1, v2, v3, v4, v5] 142)
  have HM := hide (hm.frame S0.out.fr.stays (fun _ h => h) (fun _ _ h => h))
  have hor : (emptyB x.s = false) ∨ (emptyB x.s = true ∧ x.ss.length = 1) := by
    unfold altB at hab
    simp only [Bool.and_eq_true, Bool.or_eq_true, decide_eq_true_eq] at hab
    rcases hab.2 with h | ⟨h, h2⟩
    · left
      cases he : emptyB x.s
      · rfl
      · have := (gr_size h).2
        rw [empty_size he] at this
        simp [ByteArray.size] at this
    · exact .inr ⟨h, by omega⟩
  clear hab hpg hm
  rcases hor with he | ⟨he, h1⟩
  · have e1 : (x.s.toList == []) = false := he
    have hh : headL x.s x.ss = bl x.s ++ namesL x.ss := by unfold headL; rw [he]; rfl
    rw [hh] at hlen
    have HH := hide hh
    simp only [List.length_append, bl_len] at hlen
    clear hh
    go_enter Tryz.func221, Tryz.ntmps221
    go_wp2_with fail
    refine (putNames_any B b l x.s x.ss o c _ S0.out.pg HM.out hal.2.1 (by omega)).mono ?_
    rintro e w1 ⟨rfl, h1, f1⟩
    have S1 := hide (S0.out.next h1 f1 (by decide) (by decide))
    clear h1 f1
    go_wp2
    go_end0
    refine ⟨rfl, ?_, S1.out.fr⟩
    rw [HH.out]
    exact S1.out.pg
  · obtain ⟨y, hy⟩ := zlen1 h1
    have e1 : (x.s.toList == []) = true := he
    have hh : headL x.s x.ss = bl y := by rw [hy]; exact headL_first he
    rw [hh] at hlen
    have HH := hide hh
    rw [bl_len] at hlen
    have hrow := HM.out
    rw [hy] at hrow
    obtain ⟨g, off, eo, hKg, hgl, hcs⟩ := hrow (by simp)
    subst eo
    obtain ⟨_, -, hkey, rfl, hys⟩ := hcs 0 y rfl
    have q0 := hkey 0 _ rfl
    simp only [Nat.mul_one, Nat.add_zero, List.length_cons, List.length_nil, Nat.zero_add] at q0
    rw [h1] at S0 ⊢
    clear hh hrow hcs hkey HM hy h1
    go_enter Tryz.func221, Tryz.ntmps221
    go_wp2_with fail
    refine (put1g B b l y (w.alloc (.cells #[.string x.s, .slice (some ⟨g, off, none⟩) 1 c, v0, v1, v2, v3, v4, v5] 142)) _ S0.out.pg (by first | rfl | simp) (by omega)).mono ?_
    rintro e w1 ⟨rfl, h1, f1⟩
    have S1 := hide (S0.out.next h1 f1 (by decide) (by decide))
    clear h1 f1
    go_wp2
    go_end0
    refine ⟨rfl, ?_, S1.out.fr⟩
    rw [HH.out]
    exact S1.out.pg

set_option maxHeartbeats 2000000 in
set_option maxRecDepth 100000 in
theorem palts_step {h : Nat} (hE : PxEx h) : PxAs (h + 1) := by
  intro xs o c w B b l n d hm hl hl1 hal hd hpg htb hn hc hlen
  have HE := hide hE
  have HM := hide hm
  have HAL := hide hal
  have PG := hide hpg
  have TB := hide htb
  have hl2 : xs.length ≤ 9223372036854775807 := hl
  have hn2 : n ≤ 120 := by omega
  clear hE hm hal hpg htb hl
  go_enter Tryz.func156, Tryz.ntmps156
  go_wp2
  go_loopw [10] (fun t wr => ∃ i : Nat, i ≤ xs.length ∧ t = .int .i64 i ∧ Pg B b (l ++ linesL (txt (h + 1)).al (xs.take i) n) wr ∧ Fr B b w wr) (fun t _ => xs.length - (intOf t).toNat)
  case atStart => exact ⟨0, Nat.zero_le _, rfl, by simpa [linesL] using PG.out, Fr.refl _ _ _⟩
  case round =>
    obtain ⟨i, hi, rfl, hp, hf⟩ := hrel
    have HP := hide hp
    have HF := hide hf
    clear hp hf
    by_cases hlt : i < xs.length
    · have hne : xs ≠ [] := by intro e; rw [e] at hlt; simp at hlt
      obtain ⟨x, hx⟩ : ∃ x, xs[i]? = some x := ⟨xs[i], List.getElem?_eq_getElem hlt⟩
      obtain ⟨g, off, eo, -, hbl, hcs⟩ := (HM.out.frame HF.out.stays (fun _ h => h) (reads_fr HF.out (h + 1)).2.2) hne
      subst eo
      obtain ⟨cs, hlc, hkey, hrd⟩ := hcs i x hx
      have hmem := List.mem_of_getElem? hx
      obtain ⟨hab, hok⟩ := HAL.out x hmem
      have hsz := alt_of hab
      have hcx : (cnt (h + 1)).al x ≤ 200 := Nat.le_trans (part_sum hx) hc
      obtain ⟨-, -, -, -, y, p0, g0, ce, hy, rfl, -, hf0, hrs, hce, hre⟩ := hrd
      obtain ⟨p1, g1, p2, g2, p3, g3, rfl⟩ := ex_form hre
      have q0 := hkey 0 (.string x.s) rfl
      have q1 := hkey 1 (.slice p0 x.ss.length g0) rfl
      have q2 := hkey 2 (.int .i64 y.k) rfl
      have q3 := hkey 3 (.string y.s) rfl
      have q4 := hkey 4 (.int .i64 y.n) rfl
      have q5 := hkey 5 (.slice p1 y.l.length g1) rfl
      have q6 := hkey 6 (.slice p2 y.ds.length g2) rfl
      have q7 := hkey 7 (.slice p3 y.al.length g3) rfl
      rw [Nat.add_zero] at q0
      have hyo := oka_of hok y (by rw [hy]; simp)
      have hcy : (cnt h).ex y ≤ 200 := by
        have h1 : (cnt (h + 1)).al x = sumZ (cnt h).ex x.l := rfl
        have h2 : (cnt h).ex y ≤ sumZ (cnt h).ex x.l := part_sum (i := 0) (by rw [hy]; rfl)
        omega
      have hlt2 : (i : Int) < xs.length := by omega
      have htk := lines_take (txt (h + 1)).al xs i x n hx
      rw [txt_al hy] at htk
      have hle := lines_take_len (txt (h + 1)).al xs (i + 1) n
      rw [htk] at hle
      simp only [List.length_append, List.length_cons, List.length_nil, padL_len] at hle
      have HTK := hide htk
      have HAB := hide hab
      have HRS := hide hrs
      have HRE := hide hre
      have wn : IntKind.i64.wrap ((n : Int) + 2) = (n : Int) + 2 := px_add (by omega) (by omega) (by omega) (by omega)
      have S0 := hide (Stp.first HP.out #[.string x.s, .slice p0 x.ss.length g0, .int .i64 y.k, .string y.s, .int .i64 y.n, .slice p1 y.l.length g1, .slice p2 y.ds.length g2, .slice p3 y.al.length g3] 142)
      clear hcs hx hne hkey hlc hrs hre hok hab hf0 hce hmem hy htk
      go_wp2_with fail
      refine (newLine_any B b _ n _ S0.out.pg (by omega) (by simp only [List.length_append]; omega)).mono ?_
      rintro e w1 ⟨rfl, h1, f1⟩
      have S1 := hide (S0.out.next h1 f1 (by decide) (by decide))
      clear h1 f1 q0 q1 q2 q3 q4 q5 q6 q7
      have y0 := cell_of S1.out.bx 0
      have y1 := cell_of S1.out.bx 1
      have y2 := cell_of S1.out.bx 2
      have y3 := cell_of S1.out.bx 3
      have y4 := cell_of S1.out.bx 4
      have y5 := cell_of S1.out.bx 5
      have y6 := cell_of S1.out.bx 6
      have y7 := cell_of S1.out.bx 7
      simp only [List.getElem?_toArray, List.getElem?_cons_succ, List.getElem?_cons_zero] at y0 y1 y2 y3 y4 y5 y6 y7
      go_wp2_with fail
      refine (pat_any B b _ x p0 g0 _ _ _ _ _ _ w1 S1.out.pg (HRS.out.frame S1.out.fr.stays (fun _ h => h) (fun _ _ h => h)) HAB.out (by simp only [List.length_append, List.length_cons, padL_len]; omega)).mono ?_
      rintro e w2 ⟨rfl, h1, f1⟩
      have S2 := hide (S1.out.next h1 f1 (by decide) (by decide))
      clear h1 f1 y0 y1 y2 y3 y4 y5 y6 y7
      go_wp2_with fail
      refine (put1 B b _ ⟨#[32, 45, 62, 32]⟩ w2 S2.out.pg (by simp only [List.length_append, List.length_cons, List.length_nil, padL_len, lit_size, List.size_toArray]; omega)).mono ?_
      rintro e w3 ⟨rfl, h1, f1⟩
      have S3 := hide (S2.out.next h1 f1 (by decide) (by decide))
      clear h1 f1
      have y0 := cell_of S3.out.bx 0
      have y1 := cell_of S3.out.bx 1
      have y2 := cell_of S3.out.bx 2
      have y3 := cell_of S3.out.bx 3
      have y4 := cell_of S3.out.bx 4
      have y5 := cell_of S3.out.bx 5
      have y6 := cell_of S3.out.bx 6
      have y7 := cell_of S3.out.bx 7
      simp only [List.getElem?_toArray, List.getElem?_cons_succ, List.getElem?_cons_zero] at y0 y1 y2 y3 y4 y5 y6 y7
      go_wp2_with fail
      refine (HE.out y _ w3 B b _ (n + 2) d ((reads_fr S3.out.fr h).1 _ _ HRE.out) hyo S3.out.pg (TB.out.on (HF.out.trans S3.out.fr).below) (by omega) hcy (by simp only [List.length_append, List.length_cons, List.length_nil, padL_len, bl_len, lit_size, List.size_toArray]; omega)).mono ?_
      rintro e w4 ⟨rfl, h1, f1⟩
      have S4 := hide (S3.out.next h1 f1 (by decide) (by decide))
      clear h1 f1 y0 y1 y2 y3 y4 y5 y6 y7
      go_wp2
      refine ⟨⟨i + 1, by omega, by go_num, ?_, HF.out.trans S4.out.fr⟩, by simp [intOf]; omega⟩
      rw [HTK.out]
      have key := S4.out.pg
      have hE : l ++ linesL (txt (h + 1)).al (xs.take i) n ++ (10 :: padL n) ++ headL x.s x.ss ++ bl ⟨#[32, 45, 62, 32]⟩ ++ (txt h).ex y (n + 2) = l ++ (linesL (txt (h + 1)).al (xs.take i) n ++ (10 :: (padL n ++ (headL x.s x.ss ++ ([32, 45, 62, 32] ++ (txt h).ex y (n + 2)))))) := by simp only [bl_mk, List.append_assoc, List.cons_append, List.nil_append]
      rw [hE] at key
      exact key
    · have hlt2 : ¬ (i : Int) < xs.length := by omega
      have hie : i = xs.length := by omega
      subst hie
      go_wp2
      go_end0
      refine ⟨rfl, ?_, HF.out⟩
      have := HP.out
      rw [List.take_length] at this
      exact this

set_option maxHeartbeats 2000000 in
set_option maxRecDepth 100000 in
theorem pdecs_of {h : Nat} (hD : PxDe h) : PxDs h := by
  intro xs o c w B b l n d hm hl hal hd hpg htb hn hc hlen
  have HD := hide hD
  have HM := hide hm
  have HAL := hide hal
  have PG := hide hpg
  have TB := hide htb
  have hl2 : xs.length ≤ 9223372036854775807 := hl
  have hn2 : n ≤ 120 := by omega
  clear hD hm hal hpg htb hl
  go_enter Tryz.func120, Tryz.ntmps120
  go_wp2
  go_loopw [10] (fun t wr => ∃ i : Nat, i ≤ xs.length ∧ t = .int .i64 i ∧ Pg B b (l ++ linesL (txt h).de (xs.take i) n) wr ∧ Fr B b w wr) (fun t _ => xs.length - (intOf t).toNat)
  case atStart => exact ⟨0, Nat.zero_le _, rfl, by simpa [linesL] using PG.out, Fr.refl _ _ _⟩
  case round =>
    obtain ⟨i, hi, rfl, hp, hf⟩ := hrel
    have HP := hide hp
    have HF := hide hf
    clear hp hf
    by_cases hlt : i < xs.length
    · have hne : xs ≠ [] := by intro e; rw [e] at hlt; simp at hlt
      obtain ⟨x, hx⟩ : ∃ x, xs[i]? = some x := ⟨xs[i], List.getElem?_eq_getElem hlt⟩
      obtain ⟨g, off, eo, -, hbl, hcs⟩ := (HM.out.frame HF.out.stays (fun _ h => h) (reads_fr HF.out h).2.1) hne
      subst eo
      obtain ⟨cs, hlc, hkey, hrd⟩ := hcs i x hx
      have hok := HAL.out x (List.mem_of_getElem? hx)
      have hcx : (cnt h).de x ≤ 200 := Nat.le_trans (part_sum hx) hc
      obtain ⟨z, o0, c0, o1, c1, o2, c2, o3, c3, o4, c4, rfl⟩ := de_form hrd
      have q0 := hkey 0 _ rfl
      have q1 := hkey 1 _ rfl
      have q2 := hkey 2 _ rfl
      have q3 := hkey 3 _ rfl
      have q4 := hkey 4 _ rfl
      have q5 := hkey 5 _ rfl
      have q6 := hkey 6 _ rfl
      have q7 := hkey 7 _ rfl
      have q8 := hkey 8 _ rfl
      rw [Nat.add_zero] at q0
      have hlt2 : (i : Int) < xs.length := by omega
      have htk := lines_take (txt h).de xs i x n hx
      have hle := lines_take_len (txt h).de xs (i + 1) n
      rw [htk] at hle
      simp only [List.length_append, List.length_cons, List.length_nil, padL_len] at hle
      have HTK := hide htk
      have HRD := hide hrd
      have S0 := hide (Stp.first HP.out #[.string x.s, .slice o0 x.ss.length c0, .int .i64 z.k, .string z.s, .int .i64 z.n, .slice o1 z.l.length c1, .slice o2 z.ds.length c2, .slice o3 z.al.length c3, .slice o4 x.ds.length c4] 54)
      clear hcs hx hne hkey hlc hrd htk
      go_wp2_with fail
      refine (newLine_any B b _ n _ S0.out.pg (by omega) (by simp only [List.length_append]; omega)).mono ?_
      rintro e w1 ⟨rfl, h1, f1⟩
      have S1 := hide (S0.out.next h1 f1 (by decide) (by decide))
      clear h1 f1 q0 q1 q2 q3 q4 q5 q6 q7 q8
      have y0 := cell_of S1.out.bx 0
      have y1 := cell_of S1.out.bx 1
      have y2 := cell_of S1.out.bx 2
      have y3 := cell_of S1.out.bx 3
      have y4 := cell_of S1.out.bx 4
      have y5 := cell_of S1.out.bx 5
      have y6 := cell_of S1.out.bx 6
      have y7 := cell_of S1.out.bx 7
      have y8 := cell_of S1.out.bx 8
      simp only [List.getElem?_toArray, List.getElem?_cons_succ, List.getElem?_cons_zero] at y0 y1 y2 y3 y4 y5 y6 y7 y8
      go_wp2_with fail
      refine (HD.out x _ w1 B b _ n d ((reads_fr S1.out.fr h).2.1 _ _ HRD.out) hok S1.out.pg (TB.out.on (HF.out.trans S1.out.fr).below) hn hcx (by simp only [List.length_append, List.length_cons, padL_len]; omega)).mono ?_
      rintro e w2 ⟨rfl, h1, f1⟩
      have S2 := hide (S1.out.next h1 f1 (by decide) (by decide))
      clear h1 f1 y0 y1 y2 y3 y4 y5 y6 y7 y8
      go_wp2
      refine ⟨⟨i + 1, by omega, by go_num, ?_, HF.out.trans S2.out.fr⟩, by simp [intOf]; omega⟩
      rw [HTK.out]
      have key := S2.out.pg
      have hE : l ++ linesL (txt h).de (xs.take i) n ++ (10 :: padL n) ++ (txt h).de x n = l ++ (linesL (txt h).de (xs.take i) n ++ (10 :: (padL n ++ (txt h).de x n))) := by simp only [List.append_assoc, List.cons_append]
      rw [hE] at key
      exact key
    · have hlt2 : ¬ (i : Int) < xs.length := by omega
      have hie : i = xs.length := by omega
      subst hie
      go_wp2
      go_end0
      refine ⟨rfl, ?_, HF.out⟩
      have := HP.out
      rw [List.take_length] at this
      exact this

theorem name_head {s : ByteArray} {l : List ByteArray} (h : nmB s = true) : headL s l = bl s ++ namesL l := by
  have h1 : emptyB s = false := by
    cases he : emptyB s
    · rfl
    · have := (nm_size h).2
      rw [empty_size he] at this
      simp [ByteArray.size] at this
  unfold headL
  rw [h1]
  rfl
set_option maxHeartbeats 4000000 in
set_option maxRecDepth 100000 in
theorem pdec_step {h : Nat} (hE : PxEx h) (hD : PxDs h) : PxDe (h + 1) := by
  intro x cs w B b l n d hr hok hpg htb hn hc hlen
  have hd11 := dec_deep hr hok
  obtain ⟨hs, hv, hb, hw⟩ := okd_of hok
  have hvs := vars_le hv
  obtain ⟨-, -, -, e, o1, c1, ce, o2, c2, hl, rfl, -, hf1, hf2, hrs, -, hre, hrd⟩ := hr
  obtain ⟨p1, g1, p2, g2, p3, g3, rfl⟩ := ex_form hre
  have heo := hb e (by rw [hl]; simp)
  have hcn : (cnt (h + 1)).de x = sumZ (cnt h).ex x.l + sumZ (cnt h).de x.ds := rfl
  have hce : (cnt h).ex e ≤ sumZ (cnt h).ex x.l := part_sum (i := 0) (by rw [hl]; rfl)
  have htx := txt_de (h := h) (n := n) hl
  rw [name_head hs] at htx
  rw [htx] at hlen ⊢
  simp only [List.length_append, List.length_cons, List.length_nil, bl_len] at hlen
  have HRS := hide hrs
  have HRE := hide hre
  have HRD := hide hrd
  have HW := hide hw
  have HE := hide hE
  have HD := hide hD
  have TB := hide htb
  have hl2 : x.ds.length ≤ 9223372036854775807 := hf2.1
  have wn : IntKind.i64.wrap ((n : Int) + 2) = (n : Int) + 2 := px_add (by omega) (by omega) (by omega) (by omega)
  have wn4 : IntKind.i64.wrap ((n : Int) + 2 + 2) = (n : Int) + 2 + 2 := px_add (by omega) (by omega) (by omega) (by omega)
  have S0 := hide (Stp.first hpg #[.string x.s, .slice o1 x.ss.length c1, .int .i64 e.k, .string e.s, .int .i64 e.n, .slice p1 e.l.length g1, .slice p2 e.ds.length g2, .slice p3 e.al.length g3, .slice o2 x.ds.length c2] 54)
  clear hok hb hs hv hrs hre hrd hw hl hE hD hpg htb htx
  show Calls Tryz.prog 69 #[.pointer (some ⟨b, 0, none⟩), .agg #[.string x.s, .slice o1 x.ss.length c1, .int .i64 e.k, .string e.s, .int .i64 e.n, .slice p1 e.l.length g1, .slice p2 e.ds.length g2, .slice p3 e.al.length g3, .slice o2 x.ds.length c2], .int .i64 n] w _
  go_enter Tryz.func69, Tryz.ntmps69
  go_wp2_with fail
  refine (putNames_any B b l x.s x.ss o1 c1 _ S0.out.pg (HRS.out.frame S0.out.fr.stays (fun _ h => h) (fun _ _ h => h)) hvs.1 (by omega)).mono ?_
  rintro r w1 ⟨rfl, h1, f1⟩
  have S1 := hide (S0.out.next h1 f1 (by decide) (by decide))
  clear h1 f1
  go_wp2_with fail
  refine (put1 B b _ ⟨#[32, 61, 32]⟩ w1 S1.out.pg (by simp only [List.length_append, bl_len, lit_size, List.size_toArray, List.length_cons, List.length_nil]; omega)).mono ?_
  rintro r w2 ⟨rfl, h1, f1⟩
  have S2 := hide (S1.out.next h1 f1 (by decide) (by decide))
  clear h1 f1
  have y2 := cell_of S2.out.bx 2
  have y3 := cell_of S2.out.bx 3
  have y4 := cell_of S2.out.bx 4
  have y5 := cell_of S2.out.bx 5
  have y6 := cell_of S2.out.bx 6
  have y7 := cell_of S2.out.bx 7
  simp only [List.getElem?_toArray, List.getElem?_cons_succ, List.getElem?_cons_zero] at y2 y3 y4 y5 y6 y7
  go_wp2_with fail
  refine (HE.out e _ w2 B b _ (n + 2) (d + 1) ((reads_fr S2.out.fr h).1 _ _ HRE.out) heo S2.out.pg (TB.out.on S2.out.fr.below) (by omega) (by omega) (by simp only [List.length_append, List.length_cons, List.length_nil, bl_len, lit_size, List.size_toArray]; omega)).mono ?_
  rintro r w3 ⟨rfl, h1, f1⟩
  have S3 := hide (S2.out.next h1 f1 (by decide) (by decide))
  clear h1 f1 y2 y3 y4 y5 y6 y7
  have y8 := cell_of S3.out.bx 8
  simp only [List.getElem?_toArray, List.getElem?_cons_succ, List.getElem?_cons_zero] at y8
  by_cases hds : x.ds.length = 0
  · have hnil := zlen0 hds
    have hds2 : ¬ (0 : Int) < x.ds.length := by omega
    go_wp2
    go_end0
    refine ⟨rfl, ?_, S3.out.fr⟩
    have key := S3.out.pg
    have hE : l ++ (bl x.s ++ namesL x.ss) ++ bl ⟨#[32, 61, 32]⟩ ++ (txt h).ex e (n + 2) = l ++ (bl x.s ++ namesL x.ss ++ ([32, 61, 32] ++ ((txt h).ex e (n + 2) ++ whereL (txt h) x.ds n))) := by
      rw [hnil]
      simp only [whereL, if_true, bl_mk, List.append_assoc, List.cons_append, List.nil_append, List.append_nil]
    rw [hE] at key
    exact key
  · have hds2 : (0 : Int) < x.ds.length := by omega
    have hne : x.ds ≠ [] := fun hc => hds (by rw [hc]; rfl)
    have hwh := HW.out.resolve_left hne
    have HWL : Hid (whereL (txt h) x.ds n = 10 :: (padL (n + 2) ++ ([119, 104, 101, 114, 101] ++ linesL (txt h).de x.ds (n + 4)))) := by
      show whereL (txt h) x.ds n = _
      unfold whereL
      rw [if_neg hne]
    rw [HWL.out] at hlen
    simp only [List.length_append, List.length_cons, List.length_nil, padL_len] at hlen
    go_wp2_with fail
    refine (newLine_any B b _ (n + 2) w3 S3.out.pg (by omega) (by simp only [List.length_append, List.length_cons, List.length_nil, bl_len, lit_size, List.size_toArray]; omega)).mono ?_
    rintro r w4 ⟨rfl, h1, f1⟩
    have S4 := hide (S3.out.next h1 f1 (by decide) (by decide))
    clear h1 f1 y8
    go_wp2_with fail
    refine (put1 B b _ ⟨#[119, 104, 101, 114, 101]⟩ w4 S4.out.pg (by simp only [List.length_append, List.length_cons, List.length_nil, bl_len, padL_len, lit_size, List.size_toArray]; omega)).mono ?_
    rintro r w5 ⟨rfl, h1, f1⟩
    have S5 := hide (S4.out.next h1 f1 (by decide) (by decide))
    clear h1 f1
    have y8 := cell_of S5.out.bx 8
    simp only [List.getElem?_toArray, List.getElem?_cons_succ, List.getElem?_cons_zero] at y8
    go_wp2_with fail
    refine (HD.out x.ds o2 c2 w5 B b _ (n + 4) (d + 1) (HRD.out.frame S5.out.fr.stays (fun _ h => h) (reads_fr S5.out.fr h).2.1) hf2.1 hwh.2 (by omega) S5.out.pg (TB.out.on S5.out.fr.below) (by omega) (by omega) (by simp only [List.length_append, List.length_cons, List.length_nil, bl_len, padL_len, lit_size, List.size_toArray]; omega)).mono ?_
    rintro r w6 ⟨rfl, h1, f1⟩
    have S6 := hide (S5.out.next h1 f1 (by decide) (by decide))
    clear h1 f1 y8
    go_wp2
    go_end0
    refine ⟨rfl, ?_, S6.out.fr⟩
    rw [HWL.out]
    have key := S6.out.pg
    have hE : l ++ (bl x.s ++ namesL x.ss) ++ bl ⟨#[32, 61, 32]⟩ ++ (txt h).ex e (n + 2) ++ (10 :: padL (n + 2)) ++ bl ⟨#[119, 104, 101, 114, 101]⟩ ++ linesL (txt h).de x.ds (n + 4) = l ++ (bl x.s ++ namesL x.ss ++ ([32, 61, 32] ++ ((txt h).ex e (n + 2) ++ (10 :: (padL (n + 2) ++ ([119, 104, 101, 114, 101] ++ linesL (txt h).de x.ds (n + 4))))))) := by simp only [bl_mk, List.append_assoc, List.cons_append, List.nil_append]
    rw [hE] at key
    exact key
theorem px_all (h : Nat) : PxEx h ∧ PxPa h ∧ PxDe h ∧ PxDs h ∧ PxAs h := by
  induction h with
  | zero =>
    have hde : PxDe 0 := fun _ _ _ _ _ _ _ _ hr => hr.elim
    refine ⟨fun _ _ _ _ _ _ _ _ hr => hr.elim, fun _ _ _ _ _ _ _ _ _ hr => hr.elim, hde, pdecs_of hde, ?_⟩
    intro xs o c w B b l n d hm hl h1
    exfalso
    cases xs with
    | nil => simp at h1
    | cons x r =>
      obtain ⟨_, hf⟩ := row_mem hm (List.mem_cons_self ..)
      exact hf.elim
  | succ h ih =>
    obtain ⟨i1, i2, i3, i4, i5⟩ := ih
    have hD := pdec_step i1 i4
    exact ⟨pexp_step i1 i2 i4 i5, ppart_step i1 i2 i4 i5, hD, pdecs_of hD, palts_step i1⟩
end Go.Proofs.YtdegcmagklbgoajGreatDoor
