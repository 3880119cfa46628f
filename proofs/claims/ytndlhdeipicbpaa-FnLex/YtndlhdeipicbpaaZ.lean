/- The walk of the law FnLex. -/
import Derived.Test.YtndlhdeipicbpaaY
import Derived.Test.YtndlhdeipicbpaaV
namespace Go.Proofs.Ytndlhdeipicbpaa
open Go.RowKit

theorem big_any (o : Option Addr) (len cap : Nat) (w : World) :
    Calls Try.prog 4 #[.slice o len cap] w fun e w' => e = .returned (.bool (decide ((1048576 : Int) < len))) ∧ w' = w := by
  go_enter Try.func4, Try.ntmps4
  go_wp2
  go_ret
  exact ⟨rfl, rfl⟩
theorem code_up {B B' : Nat} {w : World} {o : Option Addr} {len : Nat} (h : Code B w o len) (hB : B ≤ B') : Code B' w o len := by
  refine ⟨h.1, fun hl => ?_⟩
  obtain ⟨blk, off, e, hb, hall⟩ := h.2 hl
  exact ⟨blk, off, e, Nat.lt_of_lt_of_le hb hB, hall⟩

set_option maxHeartbeats 16000000 in
set_option maxRecDepth 100000 in
theorem fnLex_walk (o : Option Addr) (len cap : Nat) (w : World) (hcode0 : len ≤ 1048576 → Code w.heap.size w o len) :
    Calls Try.prog 3 #[.slice o len cap] w fun e w' => e = .returned (.bool true) ∧ Below w.heap.size w w' := by
  by_cases hbig : (1048576 : Int) < len
  · have hd : decide ((1048576 : Int) < len) = true := decide_eq_true hbig
    go_enter Try.func3, Try.ntmps3
    go_wp2_with fail
    refine (big_any o len cap _).mono ?_
    rintro e w1 ⟨rfl, rfl⟩
    rw [hd]
    go_wp2
    go_ret
    exact ⟨rfl, Below.refl _ _⟩
  have hd : decide ((1048576 : Int) < len) = false := decide_eq_false hbig
  have HCODE := hide (hcode0 (by omega))
  clear hcode0
  go_enter Try.func3, Try.ntmps3
  go_wp2_with fail
  refine (big_any o len cap _).mono ?_
  rintro e w0 ⟨rfl, rfl⟩
  rw [hd]
  clear hd
  go_wp2_with fail
  refine (drawLex_any len cap o _ HCODE.out).mono ?_
  rintro e w1 ⟨s, rfl, hs, hb1⟩
  have HB1 := hide hb1
  clear hb1
  go_wp2_with fail
  refine (implLex_any s _ (by unfold maxLen; omega)).mono ?_
  rintro e w2 ⟨v1, rfl, hown1, hb2⟩
  obtain ⟨o1, g1, c1, rfl, hm1⟩ := tokMem_of2 hown1
  have HM1 := hide hm1
  have HB2 := hide (HB1.out.trans (hb2.mono HB1.out.size))
  clear hown1 hm1 hb2
  go_wp2_with fail
  refine (specLex_any s _ (by omega)).mono ?_
  rintro e w3 ⟨v2, rfl, hown2, hb3⟩
  obtain ⟨o2, g2, c2, rfl, hm2⟩ := tokMem_of2 hown2
  have HM2 := hide hm2
  have HM13 := hide (tokMem_below HM1.out hb3 HM1.out.1)
  have HB3 := hide (HB2.out.trans (hb3.mono HB2.out.size))
  clear hown2 hm2 hb3
  go_wp2_with fail
  refine (drawNameOk_any len cap o _ (code_up (code_below HCODE.out HB3.out) HB3.out.size)).mono ?_
  rintro e w4 ⟨sa, rfl, hsa, hb4⟩
  have HM24 := hide (tokMem_below HM2.out hb4 HM2.out.1)
  have HM14 := hide (tokMem_below HM13.out hb4 HM13.out.1)
  have HB4 := hide (HB3.out.trans (hb4.mono HB3.out.size))
  clear hb4
  go_wp2_with fail
  refine (drawGreatOk_any len cap o _ (code_up (code_below HCODE.out HB4.out) HB4.out.size)).mono ?_
  rintro e w5 ⟨sb, rfl, hsb, hb5⟩
  have HM25 := hide (tokMem_below HM24.out hb5 HM24.out.1)
  have HM15 := hide (tokMem_below HM14.out hb5 HM14.out.1)
  have HB5 := hide (HB4.out.trans (hb5.mono HB4.out.size))
  clear hb5
  have hshort := lexTs_short s.data.toList
  cases hok : lexOk s.data.toList
  · have hnil := lexTs_bad _ hok
    have HOK := hide hok
    clear hok
    rw [hnil] at HM15 HM25 ⊢
    clear hnil
    go_wp2_with fail
    refine (sameToks_yes [] (by simp) _ _ _ _ _ _ _ HM15.out HM25.out).mono ?_
    rintro e w6 ⟨rfl, hb6⟩
    have HB6 := hide (HB5.out.trans (hb6.mono HB5.out.size))
    clear hb6
    go_wp2_with fail
    refine (implName_any _ _ (by unfold maxLen; omega)).mono ?_
    rintro e w7 ⟨rfl, hb7⟩
    have HB7 := hide (HB6.out.trans (hb7.mono HB6.out.size))
    clear hb7
    go_wp2_with fail
    refine (specName_any _ _ (by unfold maxLen; omega)).mono ?_
    rintro e w8 ⟨rfl, hb8⟩
    have HB8 := hide (HB7.out.trans (hb8.mono HB7.out.size))
    clear hb8
    generalize nameB sa.data.toList = na
    go_wp2_with fail
    refine (implGreat_any _ _ (by unfold maxLen; omega)).mono ?_
    rintro e w9 ⟨rfl, hb9⟩
    have HB9 := hide (HB8.out.trans (hb9.mono HB8.out.size))
    clear hb9
    go_wp2_with fail
    refine (specGreat_any _ _ (by unfold maxLen; omega)).mono ?_
    rintro e w10 ⟨rfl, rfl⟩
    generalize greatB sb.data.toList = gb
    go_wp2
    go_ret
    exact ⟨rfl, HB9.out⟩
  · have HBK := hide (back _ hok)
    have HOK := hide hok
    clear hok
    generalize lexTs s.data.toList = ts at *
    go_wp2_with fail
    refine (sameToks_yes ts (by omega) _ _ _ _ _ _ _ HM15.out HM25.out).mono ?_
    rintro e w6 ⟨rfl, hb6⟩
    have HM16 := hide (tokMem_below HM15.out hb6 HM15.out.1)
    have HB6 := hide (HB5.out.trans (hb6.mono HB5.out.size))
    clear hb6 HM25 HM24 HM2 HM1 HM13 HM14
    go_wp2_with fail
    refine (implName_any _ _ (by unfold maxLen; omega)).mono ?_
    rintro e w7 ⟨rfl, hb7⟩
    have HB7 := hide (HB6.out.trans (hb7.mono HB6.out.size))
    have HM17 := hide (tokMem_below HM16.out hb7 HM16.out.1)
    clear hb7
    go_wp2_with fail
    refine (specName_any _ _ (by unfold maxLen; omega)).mono ?_
    rintro e w8 ⟨rfl, hb8⟩
    have HB8 := hide (HB7.out.trans (hb8.mono HB7.out.size))
    have HM18 := hide (tokMem_below HM17.out hb8 HM17.out.1)
    clear hb8
    generalize nameB sa.data.toList = na
    go_wp2_with fail
    refine (implGreat_any _ _ (by unfold maxLen; omega)).mono ?_
    rintro e w9 ⟨rfl, hb9⟩
    have HB9 := hide (HB8.out.trans (hb9.mono HB8.out.size))
    have HM19 := hide (tokMem_below HM18.out hb9 HM18.out.1)
    clear hb9
    go_wp2_with fail
    refine (specGreat_any _ _ (by unfold maxLen; omega)).mono ?_
    rintro e w10 ⟨rfl, rfl⟩
    generalize greatB sb.data.toList = gb
    clear HM15 HM16 HM17 HM18
    go_wp2_with fail
    refine (tokText_any ts (by omega) HBK.out.short o1 g1 c1 _ HM19.out).mono ?_
    rintro e w11 ⟨rfl, hb11⟩
    have HM1 := hide (tokMem_below HM19.out hb11 HM19.out.1)
    have HB11 := hide (HB9.out.trans (hb11.mono HB9.out.size))
    have hjl := jAll_len ts HBK.out.short
    clear hb11
    generalize hT : (⟨(jAll ts).1.toArray⟩ : ByteArray) = tB
    have hTl : tB.data.toList = (jAll ts).1 := by rw [← hT]
    have hTs : tB.size = (jAll ts).1.length := by rw [← data_length, hTl]
    have HTL := hide hTl
    have HTS := hide hTs
    have htb : tB.size ≤ 1501 * 400 := by
      rw [hTs]
      have : 1501 * ts.length ≤ 1501 * 400 := Nat.mul_le_mul_left _ hshort
      omega
    clear hT hTl hTs hjl
    go_wp2_with fail
    have hc := implLex_any tB w11 (by unfold maxLen; omega)
    rw [HTL.out] at hc
    refine hc.mono ?_
    clear hc
    rintro e w12 ⟨v3, rfl, hown3, hb12⟩
    obtain ⟨o3, g3, c3, rfl, hm3⟩ := tokMem_of2 hown3
    have HM3 := hide hm3
    have HM12 := hide (tokMem_below HM1.out hb12 HM1.out.1)
    have HB12 := hide (HB11.out.trans (hb12.mono HB11.out.size))
    clear hown3 hm3 hb12 HM1 HM19
    by_cases hlong : (1500 : Int) < tB.size
    · have HL := hide (HBK.out.long (by rw [← HTS.out]; omega))
      rw [HL.out]
      go_wp2
      go_ret
      exact ⟨rfl, HB12.out⟩
    · obtain ⟨hok2, hlen2, hsame⟩ := HBK.out.ok (by rw [← HTS.out]; omega)
      rw [hok2]
      have HSM := hide hsame
      have HL2 := hide hlen2
      clear hok2 hsame hlen2
      generalize lexTs (jAll ts).1 = us at *
      rw [HL2.out]
      have hsome := HBK.out.some
      clear HCODE HB1 HB2 HB3 HB4 HB5 HB6 HB7 HB8 HB9 HB11 HOK HTL HTS hs hsa hsb htb hbig
      go_wp2_with fail
      go_loopw [13] (fun t13 wr => ∃ i : Nat, i ≤ ts.length ∧ t13 = .int .i64 i ∧ Below w0.heap.size w0 wr ∧ TokMem wr o1 g1 ts ∧ TokMem wr o3 g3 us) (fun t13 _ => ts.length - (intOf t13).toNat)
      case atStart => exact ⟨0, Nat.zero_le _, rfl, HB12.out, HM12.out, HM3.out⟩
      case round =>
        obtain ⟨i, hi, rfl, hbw, hma, hmb⟩ := hrel
        have HBW := hide hbw
        have HMA := hide hma
        have HMB := hide hmb
        clear hbw hma hmb
        by_cases hlt : i < ts.length
        · have hne : ts ≠ [] := by intro e; rw [e] at hlt; simp at hlt
          have hlu := HL2.out
          have hneu : us ≠ [] := by intro e; rw [e] at hlu; simp at hlu; omega
          obtain ⟨a, hta⟩ : ∃ a, ts[i]? = some a := ⟨ts[i], List.getElem?_eq_getElem hlt⟩
          obtain ⟨b, htb2⟩ : ∃ b, us[i]? = some b := ⟨us[i]'(by omega), List.getElem?_eq_getElem (by omega)⟩
          obtain ⟨ek, es, el⟩ := HSM.out i a b hta htb2
          have ea := HMA.out.2.1 hne
          have eb := HMB.out.2.1 hneu
          subst ea eb
          obtain ⟨a0, a1, a2, a3⟩ := HMA.out.2.2 i hlt a hta
          obtain ⟨b0, b1, b2, -⟩ := HMB.out.2.2 i (by omega) b htb2
          rw [ek] at b0
          rw [es] at b1
          rw [el] at b2
          clear htb2 ek es el hne hneu hlu
          have hlt2 : (i : Int) < ts.length := by omega
          by_cases hi0 : i = 0
          · have hd0 : decide ((0 : Int) < i) = false := decide_eq_false (by omega)
            have hd1 : decide (0 < i) = false := decide_eq_false (by omega)
            have HI0 := hide hi0
            clear hi0 hta
            generalize ((a.k : Nat) : Int) = tk at *
            generalize (⟨a.s.toArray⟩ : ByteArray) = tS at *
            go_wp2_with fail
            simp only [List.append_eq, List.cons_append, List.nil_append]
            go_quiet (fail)
            go_wp2
            refine ⟨⟨i + 1, by omega, by go_num, below_drewN HBW.out _, HMA.out, HMB.out⟩, by simp [intOf]; omega⟩
          · obtain ⟨j, rfl⟩ : ∃ j, i = j + 1 := ⟨i - 1, by omega⟩
            have hd0 : decide ((0 : Int) < ((j + 1 : Nat) : Int)) = true := decide_eq_true (by omega)
            have hd1 : decide (0 < j + 1) = true := decide_eq_true (by omega)
            obtain ⟨p, htp⟩ : ∃ p, ts[j]? = some p := ⟨ts[j]'(by omega), List.getElem?_eq_getElem (by omega)⟩
            obtain ⟨-, -, p2, p3⟩ := HMA.out.2.2 j (by omega) p htp
            obtain ⟨hon1, hon2⟩ := HBK.out.on j p a htp hta
            clear htp hta hi0 hd0 hlt2
            have hlt3 : (j : Int) + 1 < ts.length := by omega
            have hlt4 : (j : Int) < ts.length := by omega
            have hd0 : decide ((0 : Int) < (j : Int) + 1) = true := decide_eq_true (by omega)
            generalize ((a.k : Nat) : Int) = tk at *
            generalize (⟨a.s.toArray⟩ : ByteArray) = tS at *
            have hoi1 : ((p.line : Nat) : Int) ≤ ((a.line : Nat) : Int) := by omega
            have hoi2 : ((p.line : Nat) : Int) = ((a.line : Nat) : Int) → ((p.col : Nat) : Int) ≤ ((a.col : Nat) : Int) := fun h => by have := hon2 (by omega); omega
            clear hon1 hon2
            generalize ((a.line : Nat) : Int) = al at *
            generalize ((a.col : Nat) : Int) = ac at *
            generalize ((p.line : Nat) : Int) = pl at *
            generalize ((p.col : Nat) : Int) = pc at *
            have hf : decide (al < pl) = false := decide_eq_false (by omega)
            by_cases heq : pl = al
            · have hc := hoi2 heq
              have he : (al == pl) = true := by rw [heq]; simp
              have hg : decide (ac < pc) = false := decide_eq_false (by omega)
              clear heq hoi2
              go_wp2_with fail
              simp only [List.append_eq, List.cons_append, List.nil_append]
              go_quiet (fail)
              go_wp2
              refine ⟨⟨j + 1 + 1, by omega, by go_num, below_drewN HBW.out _, HMA.out, HMB.out⟩, by simp [intOf]; omega⟩
            · have he : (al == pl) = false := by simp; omega
              clear heq hoi2
              go_wp2_with fail
              simp only [List.append_eq, List.cons_append, List.nil_append]
              go_quiet (fail)
              go_wp2
              refine ⟨⟨j + 1 + 1, by omega, by go_num, below_drewN HBW.out _, HMA.out, HMB.out⟩, by simp [intOf]; omega⟩
        · have hie : i = ts.length := by omega
          subst hie
          have hne : ts ≠ [] := by intro e; rw [e] at hsome; simp at hsome
          have ea := HMA.out.2.1 hne
          subst ea
          obtain ⟨t, htl⟩ : ∃ t, ts[ts.length - 1]? = some t := ⟨ts[ts.length - 1]'(by omega), List.getElem?_eq_getElem (by omega)⟩
          obtain ⟨l0, -, -, -⟩ := HMA.out.2.2 (ts.length - 1) (by omega) t htl
          have h6 := HBK.out.last t htl
          rw [h6] at l0
          clear htl
          go_wp2
          go_ret
          exact ⟨rfl, HBW.out⟩
end Go.Proofs.Ytndlhdeipicbpaa
