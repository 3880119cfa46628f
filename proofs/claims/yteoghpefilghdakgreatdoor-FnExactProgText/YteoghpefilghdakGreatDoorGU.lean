/- Made of ET, EU, EV. -/
import Derived.Test.YteoghpefilghdakGreatDoorGS
import Derived.Test.YteoghpefilghdakGreatDoorGN
import Derived.Test.YteoghpefilghdakGreatDoorTXc
namespace Go.Proofs.YteoghpefilghdakGreatDoor
open Go.ChangeShapes Go.WideShapes Go.ChangeAt Go.RowKit
set_option linter.unusedVariables false
set_option linter.unusedSimpArgs false

theorem put2g (B b : Nat) (l : List UInt8) (s t : ByteArray) (w : World) (g : Nat) (h : Pg B b l w) (hg : g = w.heap.size) (hlen : l.length + s.size + t.size ≤ 100000000) :
    Calls Tryz.prog 36 #[.pointer (some ⟨b, 0, none⟩), .slice (some ⟨g, 0, none⟩) 2 2] (w.alloc (.cells #[.string s, .string t] 9)) fun e w' => e = .returned (.tuple #[]) ∧ Pg B b (l ++ (bl s ++ bl t)) w' ∧ Fr B b w w' := by
  subst hg
  exact put2 B b l s t w h hlen
theorem tyR_fr {B b : Nat} {w w' : World} (h : Fr B b w w') (n : Nat) : ∀ x cs, tyR (LtK B) w n x cs → tyR (LtK B) w' n x cs := tyR_frame h.stays (fun _ h => h) n
theorem tyB_rg (h : Nat) : ∀ (t : Tr) (d : Int), tyB h t d = true → Tx.rg h t := by
  induction h with
  | zero => exact fun _ _ _ => trivial
  | succ h ih =>
    intro t d H
    have H2 : (tyHere t d && allZ (tyB h) t.l (d + 1)) = true := H
    rw [Bool.and_eq_true] at H2
    obtain ⟨h1, h2⟩ := H2
    unfold tyHere at h1
    simp only [Bool.and_eq_true, decide_eq_true_eq] at h1
    exact ⟨by have := h1.2.1; omega, fun x hx => ih x _ (allZ_mem h2 hx)⟩
theorem tyB_tw (h : Nat) : ∀ (t : Tr) (d : Int), tyB h t d = true → Tx.tw h t d = (tyL h t, true) := by
  induction h with
  | zero => intro t d H; cases H
  | succ h ih =>
    intro t d H
    obtain ⟨hd, k | k | ⟨k, hs⟩ | ⟨k, a, b, hl, ha, hb⟩⟩ := ty_kinds H
    · rw [Tx.tw_1 (by omega) k, ty_1 k]
    · rw [Tx.tw_2 (by omega) k, ty_2 k]
    · rw [Tx.tw_3 (by omega) k, ty_3 k]
    · rw [Tx.tw_4 (by omega) k hl, ty_4 k hl]
      unfold Tx.tpw tyPL
      rw [ih a _ ha, ih b _ hb, if_pos rfl]
theorem tyPart1_any {h : Nat} (x : Tr) (cs : List Value) (w : World) (B b : Nat) (l : List UInt8) (hr : tyR (LtK B) w h x cs) (hb : tyB h x 1 = true) (hpg : Pg B b l w) (htb : Tb B w) (hlen : l.length + (tyPL h x).length ≤ 10000000) :
    Calls Tryz.prog 37 #[.pointer (some ⟨b, 0, none⟩), .agg cs.toArray, .int .i64 1] w fun e w' => e = .returned (.bool true) ∧ Pg B b (l ++ tyPL h x) w' ∧ Fr B b w w' := by
  have e : Tx.tpw h x 1 = (tyPL h x, true) := by unfold Tx.tpw tyPL; rw [tyB_tw h x 1 hb]
  refine (Tx.tyPart_of (Tx.pT_all h) x cs w B b l 1 hr (tyB_rg h x 1 hb) hpg htb (by omega) (by omega) (by rw [e]; show l.length + (tyPL h x).length ≤ _; omega)).mono ?_
  rintro e2 w' ⟨h1, h2, h3⟩
  rw [e] at h1 h2
  exact ⟨h1, h2, h3⟩
end Go.Proofs.YteoghpefilghdakGreatDoor
namespace Go.Proofs.YteoghpefilghdakGreatDoor
open Go.ChangeShapes Go.WideShapes Go.ChangeAt Go.RowKit
set_option linter.unusedVariables false
set_option linter.unusedSimpArgs false

theorem coR_fr {B b : Nat} {w w' : World} (h : Fr B b w w') (n : Nat) : ∀ x cs, coR (LtK B) w n x cs → coR (LtK B) w' n x cs := coR_frame h.stays (fun _ h => h) n
theorem daR_fr {B b : Nat} {w w' : World} (h : Fr B b w w') (n : Nat) : ∀ x cs, daR (LtK B) w n x cs → daR (LtK B) w' n x cs := daR_frame h.stays (fun _ h => h) n
def sepB (i : Nat) : ByteArray := if i = 0 then ⟨#[32, 61, 32]⟩ else ⟨#[32, 124, 32]⟩
theorem sepB_size (i : Nat) : (sepB i).size = 3 := by unfold sepB; split <;> rfl
def consP (h : Nat) (l : List Tr) (i : Nat) : List UInt8 := if i = 0 then [] else [32, 61, 32] ++ consJ h (l.take i)
theorem consP_next (h : Nat) (l : List Tr) (i : Nat) (c : Tr) (hc : l[i]? = some c) : consP h l (i + 1) = consP h l i ++ (bl (sepB i) ++ conL h c) := by
  unfold consP sepB
  rw [if_neg (by omega), consJ_next h l i c hc]
  split
  · rfl
  · simp only [bl_mk, List.append_assoc, List.cons_append, List.nil_append]
theorem consP_len (h : Nat) (l : List Tr) (i : Nat) : (consP h l i).length ≤ 3 + (consJ h l).length := by
  unfold consP
  split
  · simp
  · have := consJ_take_len h l i
    rw [List.length_append]
    show 3 + _ ≤ _
    omega
set_option maxHeartbeats 4000000 in
set_option maxRecDepth 100000 in
theorem pdata_any {h : Nat} (x : Tr) (cs : List Value) (w : World) (B b : Nat) (l : List UInt8) (hr : daR (LtK B) w h x cs) (hok : DataOk h x) (hpg : Pg B b l w) (htb : Tb B w) (hlen : l.length ≤ 5000000) :
    Calls Tryz.prog 17 #[.pointer (some ⟨b, 0, none⟩), .agg cs.toArray] w (Wr B b l (dataL h x) w) := by
  obtain ⟨-, -, -, -, -, o, c, rfl, hs, hf, hrow⟩ := hr
  have hl2 : x.l.length ≤ 9223372036854775807 := hf.1
  have hs8 := hok.size
  have hcj := consJ_len hok
  have HOK := hide hok
  have TB := hide htb
  have HROW := hide hrow
  have S0 := hide (Stp.first hpg #[.string x.s, .slice o x.l.length c] 41)
  clear hf hrow hok hpg htb
  go_enter Tryz.func17, Tryz.ntmps17
  go_wp2_with fail
  refine (put2g B b l ⟨#[100, 97, 116, 97, 32]⟩ x.s (w.alloc (.cells #[.string x.s, .slice o x.l.length c] 41)) _ S0.out.pg (by first | rfl | simp) (by show l.length + 5 + _ ≤ _; omega)).mono ?_
  rintro e W ⟨rfl, h1, f1⟩
  have S1 := hide (S0.out.next h1 f1 (by decide) (by decide))
  clear h1 f1
  have y1 := cell_of S1.out.bx 1
  simp only [List.getElem?_toArray, List.getElem?_cons_succ, List.getElem?_cons_zero] at y1
  obtain ⟨L, hL⟩ : ∃ L, L = l ++ (bl ⟨#[100, 97, 116, 97, 32]⟩ ++ bl x.s) := ⟨_, rfl⟩
  have hLl : L.length ≤ 5000100 := by
    rw [hL]
    simp only [List.length_append, bl_len, lit_size, List.size_toArray, List.length_cons, List.length_nil]
    omega
  have HL := hide hL
  rw [← hL] at S1
  clear hL
  go_wp2
  go_loopw [4, 17] (fun t4 t17 wr => ∃ i : Nat, i ≤ x.l.length ∧ t17 = .int .i64 i ∧ t4 = .string (sepB i) ∧ Pg B b (L ++ consP h x.l i) wr ∧ Fr B b w wr) (fun _ t17 _ => x.l.length - (intOf t17).toNat)
  case atStart => exact ⟨0, Nat.zero_le _, rfl, rfl, by simpa [consP] using S1.out.pg, S1.out.fr⟩
  case round =>
    obtain ⟨i, hi, rfl, rfl, hp, hfr⟩ := hrel
    have HP := hide hp
    have HF := hide hfr
    clear hp hfr
    have hcp := consP_len h x.l i
    by_cases hlt : i < x.l.length
    · have hne : x.l ≠ [] := by intro e; rw [e] at hlt; simp at hlt
      obtain ⟨y, hy⟩ : ∃ y, x.l[i]? = some y := ⟨x.l[i], List.getElem?_eq_getElem hlt⟩
      obtain ⟨g, off, eo, -, hbb, hcs⟩ := (HROW.out.frame HF.out.stays (fun _ h => h) (coR_fr HF.out h)) hne
      subst eo
      obtain ⟨cs, hlc, hkey, hrd⟩ := hcs i y hy
      have hco := HOK.out.cons y (List.mem_of_getElem? hy)
      obtain ⟨-, -, -, -, -, oc, cc, rfl, -, hfc, hrc⟩ := hrd
      have q0 := hkey 0 _ rfl
      have q1 := hkey 1 _ rfl
      rw [Nat.add_zero] at q0
      have hlt2 : (i : Int) < x.l.length := by omega
      have hys := hco.size
      have hal := argsL_len hco
      have hsp := sepB_size i
      have HCO := hide hco
      have HRC := hide hrc
      have hcl : y.l.length ≤ 9223372036854775807 := hfc.1
      have HCN : Hid (L ++ consP h x.l (i + 1) = L ++ consP h x.l i ++ (bl (sepB i) ++ bl y.s) ++ argsL h y.l) := by
        show L ++ consP h x.l (i + 1) = _
        rw [consP_next h x.l i y hy]
        unfold conL
        simp only [List.append_assoc]
      have HSN : Hid (sepB (i + 1) = ⟨#[32, 124, 32]⟩) := rfl
      have T0 := hide (Stp.first HP.out #[.string y.s, .slice oc y.l.length cc] 79)
      clear hcs hy hne hkey hlc hrc hfc hco
      go_wp2_with fail
      refine (put2g B b _ (sepB i) y.s (wr.alloc (.cells #[.string y.s, .slice oc y.l.length cc] 79)) _ T0.out.pg (by first | rfl | simp) (by rw [List.length_append]; omega)).mono ?_
      rintro e V ⟨rfl, h1, f1⟩
      have T1 := hide (T0.out.next h1 f1 (by decide) (by decide))
      have FV := hide (HF.out.trans (T0.out.fr.trans f1))
      have RV := hide (HRC.out.frame (T0.out.fr.trans f1).stays (fun _ h => h) (tyR_fr (T0.out.fr.trans f1) h))
      clear h1 f1 q0 q1
      have v1 := cell_of T1.out.bx 1
      simp only [List.getElem?_toArray, List.getElem?_cons_succ, List.getElem?_cons_zero] at v1
      obtain ⟨M, hM⟩ : ∃ M, M = L ++ consP h x.l i ++ (bl (sepB i) ++ bl y.s) := ⟨_, rfl⟩
      have hMl : M.length ≤ 5010000 := by
        rw [hM]
        simp only [List.length_append, bl_len]
        omega
      rw [← hM] at T1 HCN
      clear hM
      go_wp2
      go_loopw [30] (fun t30 wr => ∃ k : Nat, k ≤ y.l.length ∧ t30 = .int .i64 k ∧ Pg B b (M ++ argsL h (y.l.take k)) wr ∧ Fr B b V wr) (fun t30 _ => y.l.length - (intOf t30).toNat)
      case atStart => exact ⟨0, Nat.zero_le _, rfl, by simpa [argsL] using T1.out.pg, Fr.refl _ _ _⟩
      case round =>
        obtain ⟨k, hk, rfl, hp, hfr⟩ := hrel
        have KP := hide hp
        have KF := hide hfr
        clear hp hfr
        have hta := args_take_len h y.l k
        by_cases hkl : k < y.l.length
        · have hne : y.l ≠ [] := by intro e; rw [e] at hkl; simp at hkl
          obtain ⟨t, ht⟩ : ∃ t, y.l[k]? = some t := ⟨y.l[k], List.getElem?_eq_getElem hkl⟩
          obtain ⟨g2, off2, eo, -, hb2, hcs2⟩ := (RV.out.frame KF.out.stays (fun _ h => h) (tyR_fr KF.out h)) hne
          subst eo
          obtain ⟨_, -, tk, tr⟩ := hcs2 k t ht
          obtain ⟨ot, gt, rfl⟩ := ty_form tr
          have t0 := tk 0 _ rfl
          have t1 := tk 1 _ rfl
          have t2 := tk 2 _ rfl
          have t3 := tk 3 _ rfl
          rw [Nat.add_zero] at t0
          have hto := HCO.out.args t (List.mem_of_getElem? ht)
          have htp := tyPL_len hto.1 hto.2
          have HAN := hide (args_next h y.l k t ht)
          have HTR := hide tr
          have U0 := hide (Stp.first KP.out #[.int .i64 t.k, .string t.s, .int .i64 t.n, .slice ot t.l.length gt] 81)
          have hkl2 : (k : Int) < y.l.length := by omega
          have TYB := hide hto.1
          clear hcs2 tk tr hne ht hto
          go_wp2_with fail
          refine (put1g B b _ ⟨#[32]⟩ (wr.alloc (.cells #[.int .i64 t.k, .string t.s, .int .i64 t.n, .slice ot t.l.length gt] 81)) _ U0.out.pg (by first | rfl | simp) (by rw [List.length_append]; show _ + 1 ≤ _; omega)).mono ?_
          rintro e w1 ⟨rfl, h1, f1⟩
          have U1 := hide (U0.out.next h1 f1 (by decide) (by decide))
          clear h1 f1 t0 t1 t2 t3
          have t0 := cell_of U1.out.bx 0
          have t1 := cell_of U1.out.bx 1
          have t2 := cell_of U1.out.bx 2
          have t3 := cell_of U1.out.bx 3
          simp only [List.getElem?_toArray, List.getElem?_cons_succ, List.getElem?_cons_zero] at t0 t1 t2 t3
          go_wp2_with fail
          refine (tyPart1_any t _ w1 B b _ (tyR_fr U1.out.fr h _ _ HTR.out) TYB.out U1.out.pg (TB.out.on (FV.out.trans (KF.out.trans U1.out.fr)).below) (by simp only [List.length_append, bl_len, lit_size, List.size_toArray, List.length_cons, List.length_nil]; omega)).mono ?_
          rintro e w2 ⟨rfl, h1, f1⟩
          have U2 := hide (U1.out.next h1 f1 (by decide) (by decide))
          clear h1 f1 t0 t1 t2 t3
          go_wp2
          refine ⟨⟨k + 1, by omega, by go_num, ?_, KF.out.trans U2.out.fr⟩, by simp [intOf]; omega⟩
          have key := U2.out.pg
          have hE : M ++ argsL h (y.l.take k) ++ bl ⟨#[32]⟩ ++ tyPL h t = M ++ argsL h (y.l.take (k + 1)) := by
            rw [HAN.out]
            simp only [bl_mk, List.append_assoc, List.cons_append, List.nil_append]
          rw [hE] at key
          exact key
        · have hkl2 : ¬ (k : Int) < y.l.length := by omega
          have hkn : k = y.l.length := by omega
          subst hkn
          go_wp2
          refine ⟨⟨i + 1, by omega, by go_num, by rw [HSN.out], ?_, FV.out.trans KF.out⟩, by simp [intOf]; omega⟩
          have key := KP.out
          rw [List.take_length, ← HCN.out] at key
          exact key
    · have hlt2 : ¬ (i : Int) < x.l.length := by omega
      have hie : i = x.l.length := by omega
      subst hie
      go_wp2
      go_end0
      refine ⟨rfl, ?_, HF.out⟩
      have key := HP.out
      have hne : x.l.length ≠ 0 := by have := HOK.out.len.1; omega
      have hE : L ++ consP h x.l x.l.length = l ++ dataL h x := by
        rw [HL.out]
        unfold consP dataL
        rw [if_neg hne, List.take_length]
        simp only [bl_mk, List.append_assoc, List.cons_append, List.nil_append]
      rw [hE] at key
      exact key
end Go.Proofs.YteoghpefilghdakGreatDoor
namespace Go.Proofs.YteoghpefilghdakGreatDoor
open Go.ChangeShapes Go.WideShapes Go.ChangeAt Go.RowKit
set_option linter.unusedVariables false
set_option linter.unusedSimpArgs false

theorem cons_wt (h : Nat) (l : List Tr) : (consL l).length ≤ (l.map (wda h)).sum := by
  induction l with
  | nil => exact Nat.le_refl _
  | cons d r ih =>
    have e : consL (d :: r) = d.l.map Tr.s ++ consL r := rfl
    rw [e, List.length_append, List.length_map, List.map_cons, List.sum_cons]
    have h1 : d.l.length ≤ wda h d := by unfold wda lw; omega
    omega

set_option maxHeartbeats 400000 in
theorem implProgOk_any {w : World} {h : Nat} {x : Tr} {cs : List Value} (hr : prR AllK w h x cs) (hN : (consL x.l).length ≤ 1048576) :
    Calls Tryz.prog 16 #[.agg cs.toArray] w fun e w' => e = .returned (.bool (progB h x)) ∧ Below w.heap.size w w' := by
  obtain ⟨-, -, -, -, -, o1, c1, o2, c2, rfl, hl, hd, q1, q2⟩ := hr
  have HB1 : Hid (Below w.heap.size w ((w.alloc (.cells #[.slice o1 x.l.length c1, .slice o2 x.ds.length c2] 31)).alloc (.cells #[.int .i64 0] 90))) := ((Below.refl _ w).alloc (Nat.le_refl _) _).alloc (by simp) _
  have HP1 : Hid (((w.alloc (.cells #[.slice o1 x.l.length c1, .slice o2 x.ds.length c2] 31)).alloc (.cells #[.int .i64 0] 90)).heap[w.heap.size]? = some (.cells #[.slice o1 x.l.length c1, .slice o2 x.ds.length c2] 31 (0, 0))) := (Below.heap_alloc _ _ _ (by simp)).trans (heap_alloc_new w _)
  have HC1 : Hid (Ctr ((w.alloc (.cells #[.slice o1 x.l.length c1, .slice o2 x.ds.length c2] 31)).alloc (.cells #[.int .i64 0] 90)) (w.heap.size + 1) ((0 : Nat) : Int)) := heap_alloc2_new w _ _
  have HQ1 := hide (q1.later HB1.out (daR_later HB1.out h))
  have HQ2 := hide (row_old (g := w.heap.size + 1) (by omega) q2)
  have HL := hide hl
  have HD := hide hd
  have HN := hide hN
  clear hl hd q1 q2 hN
  cases hb : datasB h x.l
  all_goals
    have HDB := hide hb
    clear hb
    go_enter Tryz.func16, Tryz.ntmps16
    go_wp2_with fail
    refine (datasOk_any x.l o1 c1 _ HL.out.1 HN.out HQ1.out).mono ?_
    rintro e w1 ⟨rfl, hb⟩
    rw [HDB.out]
    have HB2 := hide (HB1.out.trans (hb.mono HB1.out.size))
    have HP2 := hide ((hb.block w.heap.size (heap_lt HP1.out)).trans HP1.out)
    have HC2 := hide (HC1.out.later hb)
    clear hb
  · go_wp2
    go_ret
    exact ⟨ret_bool (by rw [prog_same, HDB.out]; rfl), HB2.out⟩
  · have p1 := cell_of HP2.out 1
    simp only [List.getElem?_toArray, List.getElem?_cons_succ, List.getElem?_cons_zero] at p1
    go_wp2_with fail
    refine ((ch_all h).2.2.2.1 x.ds o2 c2 _ (w.heap.size + 1) 0 12 0 (HQ2.out.later HB2.out (reads_later HB2.out h).2.1) HD.out.1 HC2.out (by omega) (by omega) (by omega) (by omega) (by omega)).mono ?_
    rintro e w2 ⟨n', rfl, hc, hn, hk⟩
    have HB3 : Hid (Below w.heap.size w w2) := by
      have h2 := hk.mono (B' := w.heap.size) HB2.out.size
      exact HB2.out.trans ⟨h2.os, h2.tape, h2.output, h2.size, fun k hk => h2.block k hk (by omega)⟩
    clear hc hn hk
    go_wp2
    go_ret
    exact ⟨ret_bool (by rw [prog_same, HDB.out]; first | rfl | simp), HB3.out⟩

theorem tyR_lt (w : World) : ∀ h x cs, tyR AllK w h x cs → tyR (LtK w.heap.size) w h x cs := by
  intro h
  induction h with
  | zero => exact fun _ _ h => h
  | succ h ih =>
    intro x cs hr
    obtain ⟨a, b, c, o, d, e, f, g, r⟩ := hr
    exact ⟨a, b, c, o, d, e, f, g, r.lt ih⟩
theorem coR_lt (w : World) (h : Nat) : ∀ x cs, coR AllK w h x cs → coR (LtK w.heap.size) w h x cs := by
  intro x cs hr
  obtain ⟨a, b, c, d, e, o, p, f, g, i, r⟩ := hr
  exact ⟨a, b, c, d, e, o, p, f, g, i, r.lt (tyR_lt w h)⟩
theorem daR_lt (w : World) (h : Nat) : ∀ x cs, daR AllK w h x cs → daR (LtK w.heap.size) w h x cs := by
  intro x cs hr
  obtain ⟨a, b, c, d, e, o, p, f, g, i, r⟩ := hr
  exact ⟨a, b, c, d, e, o, p, f, g, i, r.lt (coR_lt w h)⟩
set_option maxHeartbeats 4000000 in
set_option maxRecDepth 100000 in
theorem implProgText_any {w : World} {h : Nat} {x : Tr} {cs : List Value} (hr : prR AllK w h x cs) (hN : (consL x.l).length ≤ 1048576) (htab : TabW w) :
    Calls Tryz.prog 7 #[.agg cs.toArray] w fun e w' => e = .returned (.string (ofL (progT h x))) ∧ Below w.heap.size w w' := by
  have HR := hide hr
  have HT := hide htab
  obtain ⟨-, -, -, -, -, o1, c1, o2, c2, rfl, hl, hd, q1, q2⟩ := hr
  have hl2 : x.l.length ≤ 9223372036854775807 := hl.1
  have hd2 : x.ds.length ≤ 9223372036854775807 := hd.1
  have HB0 : Hid (Below w.heap.size w (w.alloc (.cells #[.slice o1 x.l.length c1, .slice o2 x.ds.length c2] 31))) := (Below.refl _ w).alloc (Nat.le_refl _) _
  have HX0 : Hid ((w.alloc (.cells #[.slice o1 x.l.length c1, .slice o2 x.ds.length c2] 31)).heap[w.heap.size]? = some (.cells #[.slice o1 x.l.length c1, .slice o2 x.ds.length c2] 31 (0, 0))) := heap_alloc_new w _
  have CALL := hide (implProgOk_any (prR_later HB0.out h _ _ HR.out) hN)
  have R1 := hide q1
  have R2 := hide q2
  clear hl hd q1 q2 htab
  cases hb : progB h x
  · have HPB := hide hb
    clear hb
    go_enter Tryz.func7, Tryz.ntmps7
    go_wp2_with fail
    refine CALL.out.mono ?_
    rintro e w1 ⟨rfl, hb⟩
    rw [HPB.out]
    have HB1 := hide (HB0.out.trans (hb.mono HB0.out.size))
    clear hb
    go_wp2
    go_ret
    exact ⟨ret_str (by unfold progT; rw [HPB.out]; rfl), HB1.out⟩
  · have HPB := hide hb
    have POK := hide (prog_of hb)
    have hdl := datasL_len (prog_of hb)
    have htl := topsL_len (h := h) o2 x.ds R2.out (prog_of hb).decs.2
    have htc := (prog_of hb).cnt
    have hds1 := (prog_of hb).decs.1
    clear hb
    go_enter Tryz.func7, Tryz.ntmps7
    go_wp2_with fail
    refine CALL.out.mono ?_
    rintro e w1 ⟨rfl, hb⟩
    rw [HPB.out]
    have HB1 := hide (HB0.out.trans (hb.mono HB0.out.size))
    have HX1 := hide ((hb.block w.heap.size (heap_lt HX0.out)).trans HX0.out)
    clear hb CALL
    have HA1 : Hid (Below w1.heap.size w1 (w1.alloc (.cells #[.pointer none, .slice none 0 0] 57))) := (Below.refl _ w1).alloc (Nat.le_refl _) _
    have hT1 : Hid (Tb w1.heap.size w1) := (HT.out.later HB1.out).tb
    have PG := hide (fresh_page w1)
    have D1 := hide ((R1.out.later HB1.out (daR_later HB1.out h)).lt (daR_lt w1 h))
    have D2 := hide ((R2.out.later HB1.out (reads_later HB1.out h).2.1).lt (reads_lt w1 h).2.1)
    have x0 := (HA1.out.cell (p := ⟨w.heap.size, 0, none⟩) (heap_lt HX1.out)).trans (cell_of HX1.out 0)
    simp only [List.getElem?_toArray, List.getElem?_cons_succ, List.getElem?_cons_zero] at x0
    go_wp2
    generalize (w1.alloc (.cells #[.pointer none, .slice none 0 0] 57)) = W at *
    go_loopw [14] (fun t14 wr => ∃ i : Nat, i ≤ x.l.length ∧ t14 = .int .i64 i ∧ Pg w1.heap.size w1.heap.size (datasL h (x.l.take i)) wr ∧ Fr w1.heap.size w1.heap.size W wr) (fun t14 _ => x.l.length - (intOf t14).toNat)
    case atStart => exact ⟨0, Nat.zero_le _, rfl, PG.out, Fr.refl _ _ _⟩
    case round =>
      obtain ⟨i, hi, rfl, hp, hf⟩ := hrel
      have HP := hide hp
      have HF := hide hf
      clear hp hf
      have htk := datas_take_len h x.l i
      have BW := hide (HA1.out.trans HF.out.below)
      have SW := hide (show Stays (LtK w1.heap.size) w1 wr from ⟨BW.out.size, fun k hk _ => BW.out.block k hk⟩)
      by_cases hlt : i < x.l.length
      · have hne : x.l ≠ [] := by intro e; rw [e] at hlt; simp at hlt
        obtain ⟨y, hy⟩ : ∃ y, x.l[i]? = some y := ⟨x.l[i], List.getElem?_eq_getElem hlt⟩
        obtain ⟨g, off, eo, -, hbb, hcs⟩ := (D1.out.frame SW.out (fun _ h => h) (daR_frame SW.out (fun _ h => h) h)) hne
        subst eo
        obtain ⟨cs, hlc, hkey, hrd⟩ := hcs i y hy
        have hdo := POK.out.datas y (List.mem_of_getElem? hy)
        obtain ⟨oy, cy, rfl⟩ := da_form hrd
        have y0 := hkey 0 _ rfl
        have y1 := hkey 1 _ rfl
        rw [Nat.add_zero] at y0
        have S0 := hide (Stp.first HP.out #[.string y.s, .slice oy y.l.length cy] 41)
        have DC := hide (pdata_any y _ _ _ _ _ (daR_fr S0.out.fr h _ _ hrd) hdo S0.out.pg (hT1.out.on (BW.out.trans S0.out.fr.below)) (by omega))
        have HNX := hide (datas_next h x.l i y hy)
        have hln := dataL_len hdo
        have hlt2 : (i : Int) < x.l.length := by omega
        clear hcs hkey hlc hrd hdo hy hne
        go_wp2_with fail
        refine DC.out.mono ?_
        rintro e w2 ⟨rfl, h1, f1⟩
        have S1 := hide (S0.out.next h1 f1 (by decide) (by decide))
        clear h1 f1
        go_wp2_with fail
        refine (newLine_any _ _ _ 0 w2 S1.out.pg (by omega) (by rw [List.length_append]; omega)).mono ?_
        rintro e w3 ⟨rfl, h1, f1⟩
        have S2 := hide (S1.out.next h1 f1 (by decide) (by decide))
        clear h1 f1
        go_wp2
        refine ⟨⟨i + 1, by omega, by go_num, ?_, HF.out.trans S2.out.fr⟩, by simp [intOf]; omega⟩
        have key := S2.out.pg
        have hE : datasL h (x.l.take i) ++ dataL h y ++ (10 :: padL 0) = datasL h (x.l.take (i + 1)) := by
          rw [HNX.out, List.append_assoc]
          rfl
        rw [hE] at key
        exact key
      · have hlt2 : ¬ (i : Int) < x.l.length := by omega
        have hin : i = x.l.length := by omega
        subst hin
        have PV := hide HP.out
        rw [List.take_length] at PV
        have x1 := (BW.out.cell (p := ⟨w.heap.size, 1, none⟩) (heap_lt HX1.out)).trans (cell_of HX1.out 1)
        simp only [List.getElem?_toArray, List.getElem?_cons_succ, List.getElem?_cons_zero] at x1
        go_wp2
        clear HP
        generalize wr = V at *
        go_loopw [25] (fun t25 wr => ∃ k : Nat, k ≤ x.ds.length ∧ t25 = .int .i64 k ∧ Pg w1.heap.size w1.heap.size (datasL h x.l ++ topsL h (x.ds.take k)) wr ∧ Fr w1.heap.size w1.heap.size V wr) (fun t25 _ => x.ds.length - (intOf t25).toNat)
        case atStart => exact ⟨0, Nat.zero_le _, rfl, by simpa [topsL] using PV.out, Fr.refl _ _ _⟩
        case round =>
          obtain ⟨k, hk, rfl, hp, hf⟩ := hrel
          have KP := hide hp
          have KF := hide hf
          clear hp hf
          have htk2 := tops_take_len h x.ds k
          have BQ := hide (BW.out.trans KF.out.below)
          have SQ := hide (show Stays (LtK w1.heap.size) w1 wr from ⟨BQ.out.size, fun k hk _ => BQ.out.block k hk⟩)
          by_cases hkl : k < x.ds.length
          · have hne : x.ds ≠ [] := by intro e; rw [e] at hkl; simp at hkl
            obtain ⟨y, hy⟩ : ∃ y, x.ds[k]? = some y := ⟨x.ds[k], List.getElem?_eq_getElem hkl⟩
            obtain ⟨g, off, eo, -, hbb, hcs⟩ := (D2.out.frame SQ.out (fun _ h => h) (reads_frame SQ.out (fun _ h => h) h).2.1) hne
            subst eo
            obtain ⟨cs, hlc, hkey, hrd⟩ := hcs k y hy
            have hdo := POK.out.decs.2 y (List.mem_of_getElem? hy)
            have hcy : (cnt h).de y ≤ 200 := Nat.le_trans (part_sum hy) htc
            obtain ⟨z, o0, c0, p1, g1, p2, g2, p3, g3, p4, g4, rfl⟩ := de_form hrd
            have y0 := hkey 0 _ rfl
            have y1 := hkey 1 _ rfl
            have y2 := hkey 2 _ rfl
            have y3 := hkey 3 _ rfl
            have y4 := hkey 4 _ rfl
            have y5 := hkey 5 _ rfl
            have y6 := hkey 6 _ rfl
            have y7 := hkey 7 _ rfl
            have y8 := hkey 8 _ rfl
            rw [Nat.add_zero] at y0
            have hly := (txt_len (LtK w1.heap.size) wr h).de y _ 0 0 hrd hdo (by omega)
            have S0 := hide (Stp.first KP.out #[.string y.s, .slice o0 y.ss.length c0, .int .i64 z.k, .string z.s, .int .i64 z.n, .slice p1 z.l.length g1, .slice p2 z.ds.length g2, .slice p3 z.al.length g3, .slice p4 y.ds.length g4] 49)
            have DC := hide ((px_all h).2.2.1 y _ _ _ _ _ 0 0 ((reads_fr S0.out.fr h).2.1 _ _ hrd) hdo S0.out.pg (hT1.out.on (BQ.out.trans S0.out.fr.below)) (by omega) hcy (by rw [List.length_append]; omega))
            have HNX := hide (tops_next h x.ds k y hy)
            have hkl2 : (k : Int) < x.ds.length := by omega
            clear hcs hkey hlc hrd hdo hy hne
            go_wp2_with fail
            refine DC.out.mono ?_
            rintro e w2 ⟨rfl, h1, f1⟩
            have S1 := hide (S0.out.next h1 f1 (by decide) (by decide))
            clear h1 f1
            go_wp2_with fail
            refine (newLine_any _ _ _ 0 w2 S1.out.pg (by omega) (by simp only [List.length_append]; omega)).mono ?_
            rintro e w3 ⟨rfl, h1, f1⟩
            have S2 := hide (S1.out.next h1 f1 (by decide) (by decide))
            clear h1 f1
            go_wp2
            refine ⟨⟨k + 1, by omega, by go_num, ?_, KF.out.trans S2.out.fr⟩, by simp [intOf]; omega⟩
            have key := S2.out.pg
            have hE : datasL h x.l ++ topsL h (x.ds.take k) ++ (txt h).de y 0 ++ (10 :: padL 0) = datasL h x.l ++ topsL h (x.ds.take (k + 1)) := by
              rw [HNX.out]
              simp only [List.append_assoc]
              rfl
            rw [hE] at key
            exact key
          · have hkl2 : ¬ (k : Int) < x.ds.length := by omega
            have hkn : k = x.ds.length := by omega
            subst hkn
            have PF := hide KP.out
            rw [List.take_length] at PF
            have HNE : Hid (datasL h x.l ++ topsL h x.ds ≠ []) := by
              show datasL h x.l ++ topsL h x.ds ≠ []
              cases hx : x.ds with
              | nil => rw [hx] at hds1; simp at hds1
              | cons d r => unfold topsL; simp
            clear KP
            go_wp2_with fail
            refine (string_page _ _ _ wr PF.out HNE.out).mono ?_
            rintro e w4 ⟨rfl, f4⟩
            have B4 := hide (HB1.out.trans ((BQ.out.trans f4.below).mono HB1.out.size))
            clear f4
            go_wp2
            go_ret
            exact ⟨ret_str (by unfold progT; rw [HPB.out]; rfl), B4.out⟩
end Go.Proofs.YteoghpefilghdakGreatDoor
