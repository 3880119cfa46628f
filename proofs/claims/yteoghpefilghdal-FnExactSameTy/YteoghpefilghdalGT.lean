/- Made of HTe, HTd, HTa, HTt. -/
import Derived.Test.YteoghpefilghdalHS
namespace Go.Proofs.Yteoghpefilghdal
open Go.ChangeShapes Go.WideShapes Go.ChangeAt Go.RowKit

set_option maxHeartbeats 2000000 in
set_option maxRecDepth 100000 in
theorem all_ex {W : World} {K KP : Nat → Prop} {F : Prop} {g : Nat} (hKP : ∀ b, KP b → K b) (hp : ∀ b, KP b → PlainAt W ⟨b, 0, none⟩) (w : World) (ls ks : Nat → List (Addr × Addr)) (n : Nat) (hk : Keeps K W w) (hh : HeldMem TT w K g ls ks) (hg : Good W KP F ls ks n) (hn : n ≤ 3000000) :
    Calls Try.prog 36 #[.pointer (some ⟨g, 0, none⟩), .func (.func 37) #[.pointer (some ⟨g, 0, none⟩)] #[]] w fun e w' => ∃ b, e = .returned (.bool b) ∧ Keeps K W w' ∧ (b = false → ¬ F) ∧
      (b = true → ∃ ls' ks' n', HeldMem TT w' K g ls' ks' ∧ Good W KP F ls' ks' n' ∧ (∀ j, j < 4 → ∀ p ∈ ks j, p ∈ ks' j) ∧ ls' 0 = [] ∧ n' ≤ n ∧ (ls 0 ≠ [] → n' < n) ∧ (ls 0 = [] → ls' = ls)) := by
  obtain ⟨mu, hmu⟩ := least_any (α := Value × World) (fun m q => ∃ ls' ks', HeldMem TT q.2 K g ls' ks' ∧ Good W KP F ls' ks' m ∧ Keeps K W q.2 ∧ (∀ j, j < 4 → ∀ p ∈ ks j, p ∈ ks' j) ∧ ((m ≤ n ∧ ls' = ls) ∨ (m < n ∧ ls 0 ≠ [])) ∧ q.1 = .int .i64 ((ls' 0).length : Int))
  have HMU := hide hmu
  have HP := hide hp
  have HKPP := hide hKP
  obtain ⟨oo, capo, c0⟩ := held_len hh 0 (by omega)
  simp only [Nat.mul_zero] at c0
  have HH := hide hh
  have HG := hide hg
  have HK := hide hk
  have hlen0 : (ls 0).length ≤ 3000000 := by
    obtain ⟨n0, n1, n2, n3, w0, w1, w2, w3, hs⟩ := hg.wt
    have h0 := w0.len
    have h1 := w1.len
    have h2 := w2.len
    have h3 := w3.len
    omega
  clear hmu hp hKP hh hg hk
  go_enter Try.func36, Try.ntmps36
  go_wp2
  clear c0
  go_loopw [5] (fun t5 wr => ∃ m ls' ks', HeldMem TT wr K g ls' ks' ∧ Good W KP F ls' ks' m ∧ Keeps K W wr ∧ (∀ j, j < 4 → ∀ p ∈ ks j, p ∈ ks' j) ∧ ((m ≤ n ∧ ls' = ls) ∨ (m < n ∧ ls 0 ≠ [])) ∧ t5 = .int .i64 ((ls' 0).length : Int)) (fun t5 wr => mu (t5, wr))
  case atStart => exact ⟨n, ls, ks, HH.out, HG.out, HK.out, fun _ _ _ h => h, .inl ⟨Nat.le_refl _, rfl⟩, rfl⟩
  case round =>
    obtain ⟨m1, lsx, ksx, x1, x2, x3, x4, x5, x6⟩ := hrel
    obtain ⟨⟨ls1, ks1, hh1, hg1, hk1, hks1, hst1, ht5⟩, hle⟩ := HMU.out (u5, wr) m1 ⟨lsx, ksx, x1, x2, x3, x4, x5, x6⟩
    generalize hmm : mu (u5, wr) = m at hg1 hst1 hle
    have HMM := hide hmm
    have hmn : m ≤ n := by omega
    clear hle hmm x1 x2 x3 x4 x5 x6
    simp only at hh1 hk1 ht5
    subst ht5
    have HH1 := hide hh1
    have HG1 := hide hg1
    have HK1 := hide hk1
    have HKS := hide hks1
    have HST := hide hst1
    clear hks1 hst1
    rcases List.eq_nil_or_concat (ls1 0) with hnil | ⟨l0, p, hcat⟩
    · have hz : (ls1 0).length = 0 := by rw [hnil]; rfl
      rw [hz]
      have HNIL := hide hnil
      clear hnil hz hh1 hg1 hk1
      go_wp2
      go_ret
      refine ⟨true, rfl, HK1.out, (fun h => by cases h), fun _ => ⟨ls1, ks1, m, HH1.out, HG1.out, HKS.out, HNIL.out, hmn, fun hne => ?_, fun he => ?_⟩⟩
      · rcases HST.out with ⟨-, h1⟩ | h1
        · rw [h1] at HNIL
          exact absurd HNIL.out hne
        · exact h1.1
      · rcases HST.out with ⟨-, h1⟩ | h1
        · exact h1
        · exact absurd he h1.2
    · have hcat2 : ls1 0 = l0 ++ [p] := by rw [hcat, List.concat_eq_append]
      have hlen : (ls1 0).length = l0.length + 1 := by rw [hcat2, List.length_append]; rfl
      have hl3 : l0.length + 1 ≤ 3000000 := by
        obtain ⟨n0, n1, n2, n3, w0, w1, w2, w3, hs⟩ := hg1.wt
        have h0 := w0.len
        have h1 := w1.len
        have h2 := w2.len
        have h3 := w3.len
        omega
      have hgw := held_gw hh1
      obtain ⟨gb, cap, q0, fz0, hc1, hc2, q1, q2, hpop, hkp⟩ := held_pop hh1 0 (by omega) l0 p hcat2
      simp only [Nat.mul_zero] at q0 fz0 hpop hkp
      obtain ⟨a, t, b, u, at1, at2, hF, n0, n1, n2, n3, v0, v1, v2, v3, hsum⟩ := hg1.pop (by omega) hcat2
      have kl := kids_len at1
      have HPOP := hide hpop
      have HKP := hide hkp
      have HCAT := hide hcat2
      have HATS := hide (And.intro at1 (And.intro at2 hF))
      have HWT := hide (And.intro v0 (And.intro v1 (And.intro v2 (And.intro v3 hsum))))
      have hb0 := v0.len
      have hb1 := v1.len
      have hb2 := v2.len
      have hb3 := v3.len
      have hlen0b := hlen
      rw [hlen]
      have hc3 : cap ≤ 9223372036854775807 := hc2
      have hw1 : IntKind.i64.wrap (l0.length : Int) = l0.length := by rw [IntKind.wrap_i64]; omega
      have hw2 : (l0.length : Int) ≤ cap := by omega
      have hw3 : (0 : Int) ≤ l0.length := by omega
      clear hcat hcat2 hpop hkp at1 at2 hF v0 v1 v2 v3 hh1 hg1 hk1 hc2
      have hm2 := HMM.out
      rw [hlen0b] at hm2
      have HM2 := hide hm2
      clear hm2 HMM
      have hba : Below (wr.setCell ⟨g, 0, none⟩ (.slice (some ⟨gb, 0, none⟩) l0.length cap)).heap.size (wr.setCell ⟨g, 0, none⟩ (.slice (some ⟨gb, 0, none⟩) l0.length cap)) ((wr.setCell ⟨g, 0, none⟩ (.slice (some ⟨gb, 0, none⟩) l0.length cap)).alloc (.cells #[.pointer (some p.1), .pointer (some p.2)] 142)) := (Below.refl _ _).alloc (Nat.le_refl _) _
      have HHA := hide (HPOP.out.later hba)
      have HKA := hide ((HK1.out.trans HKP.out).trans (keeps_of hba (held_kw HPOP.out)))
      clear hba
      go_wp2_with fail
      refine (look_exp (F := F) HKPP.out HKA.out HP.out HHA.out HATS.out.1 HATS.out.2.1 (by omega) (by omega) (by omega)).mono ?_
      rintro e w1 ⟨bb, rfl, hk2, hfa, htr⟩
      cases bb
      · have HFA := hide (hfa rfl)
        have HK2 := hide hk2
        clear hfa htr hk2
        go_wp2
        go_ret
        exact ⟨false, rfl, HK2.out, (fun _ hf => HFA.out (HATS.out.2.2 hf)), fun h => (by cases h)⟩
      · obtain ⟨ls2, ks2, hh2, hpu⟩ := htr rfl
        have hputs := hpu HATS.out.2.2
        obtain ⟨n', hg2, hlt⟩ := HG1.out.next (ls0 := upd ls1 0 l0) (by rw [upd_at]; exact HCAT.out) (fun j hj => upd_other _ _ hj) hputs ⟨n0, n1, n2, n3, HWT.out.1, HWT.out.2.1, HWT.out.2.2.1, HWT.out.2.2.2.1, HWT.out.2.2.2.2⟩
        have hks2 : ∀ j, j < 4 → ∀ q ∈ ks j, q ∈ ks2 j := by
          intro j hj q hq
          obtain ⟨⟨aa, ha, -⟩, -⟩ := hputs
          rw [(ha j hj).2]
          exact List.mem_append_left _ (HKS.out j hj q hq)
        obtain ⟨o9, cap9, c9⟩ := held_len hh2 0 (by omega)
        simp only [Nat.mul_zero] at c9
        have hlen2 : (ls2 0).length ≤ 3000000 := by
          obtain ⟨m0, m1, m2, m3, w0, w1, w2, w3, hs⟩ := hg2.wt
          have h0 := w0.len
          have h1 := w1.len
          have h2 := w2.len
          have h3 := w3.len
          omega
        have HNE : Hid (ls 0 ≠ []) := by
          show ls 0 ≠ []
          rcases HST.out with ⟨-, h1⟩ | h1
          · have h8 := HCAT.out
            rw [h1] at h8
            rw [h8]
            simp
          · exact h1.2
        have HH2 := hide hh2
        have HG2 := hide hg2
        have HK2 := hide hk2
        have HKS2 := hide hks2
        clear hfa htr hpu hputs hks2 hh2 hg2 hk2
        go_wp2
        refine ⟨⟨n', ls2, ks2, HH2.out, HG2.out, HK2.out, HKS2.out, .inr ⟨by omega, HNE.out⟩, rfl⟩, ?_⟩
        have h9 := (HMU.out (.int .i64 ((ls2 0).length : Int), w1) n' ⟨ls2, ks2, HH2.out, HG2.out, HK2.out, HKS2.out, .inr ⟨by omega, HNE.out⟩, rfl⟩).2
        rw [HM2.out]
        exact Nat.lt_of_le_of_lt h9 hlt
end Go.Proofs.Yteoghpefilghdal
namespace Go.Proofs.Yteoghpefilghdal
open Go.ChangeShapes Go.WideShapes Go.ChangeAt Go.RowKit

set_option maxHeartbeats 2000000 in
set_option maxRecDepth 100000 in
theorem all_de {W : World} {K KP : Nat → Prop} {F : Prop} {g : Nat} (hKP : ∀ b, KP b → K b) (hp : ∀ b, KP b → PlainAt W ⟨b, 0, none⟩) (w : World) (ls ks : Nat → List (Addr × Addr)) (n : Nat) (hk : Keeps K W w) (hh : HeldMem TT w K g ls ks) (hg : Good W KP F ls ks n) (hn : n ≤ 3000000) :
    Calls Try.prog 38 #[.pointer (some ⟨g, 2, none⟩), .func (.func 39) #[.pointer (some ⟨g, 0, none⟩)] #[]] w fun e w' => ∃ b, e = .returned (.bool b) ∧ Keeps K W w' ∧ (b = false → ¬ F) ∧
      (b = true → ∃ ls' ks' n', HeldMem TT w' K g ls' ks' ∧ Good W KP F ls' ks' n' ∧ (∀ j, j < 4 → ∀ p ∈ ks j, p ∈ ks' j) ∧ ls' 1 = [] ∧ n' ≤ n ∧ (ls 1 ≠ [] → n' < n) ∧ (ls 1 = [] → ls' = ls)) := by
  obtain ⟨mu, hmu⟩ := least_any (α := Value × World) (fun m q => ∃ ls' ks', HeldMem TT q.2 K g ls' ks' ∧ Good W KP F ls' ks' m ∧ Keeps K W q.2 ∧ (∀ j, j < 4 → ∀ p ∈ ks j, p ∈ ks' j) ∧ ((m ≤ n ∧ ls' = ls) ∨ (m < n ∧ ls 1 ≠ [])) ∧ q.1 = .int .i64 ((ls' 1).length : Int))
  have HMU := hide hmu
  have HP := hide hp
  have HKPP := hide hKP
  obtain ⟨oo, capo, c0⟩ := held_len hh 1 (by omega)
  simp only [Nat.mul_one] at c0
  have HH := hide hh
  have HG := hide hg
  have HK := hide hk
  have hlen0 : (ls 1).length ≤ 3000000 := by
    obtain ⟨n0, n1, n2, n3, w0, w1, w2, w3, hs⟩ := hg.wt
    have h0 := w0.len
    have h1 := w1.len
    have h2 := w2.len
    have h3 := w3.len
    omega
  clear hmu hp hKP hh hg hk
  go_enter Try.func38, Try.ntmps38
  go_wp2
  clear c0
  go_loopw [5] (fun t5 wr => ∃ m ls' ks', HeldMem TT wr K g ls' ks' ∧ Good W KP F ls' ks' m ∧ Keeps K W wr ∧ (∀ j, j < 4 → ∀ p ∈ ks j, p ∈ ks' j) ∧ ((m ≤ n ∧ ls' = ls) ∨ (m < n ∧ ls 1 ≠ [])) ∧ t5 = .int .i64 ((ls' 1).length : Int)) (fun t5 wr => mu (t5, wr))
  case atStart => exact ⟨n, ls, ks, HH.out, HG.out, HK.out, fun _ _ _ h => h, .inl ⟨Nat.le_refl _, rfl⟩, rfl⟩
  case round =>
    obtain ⟨m1, lsx, ksx, x1, x2, x3, x4, x5, x6⟩ := hrel
    obtain ⟨⟨ls1, ks1, hh1, hg1, hk1, hks1, hst1, ht5⟩, hle⟩ := HMU.out (u5, wr) m1 ⟨lsx, ksx, x1, x2, x3, x4, x5, x6⟩
    generalize hmm : mu (u5, wr) = m at hg1 hst1 hle
    have HMM := hide hmm
    have hmn : m ≤ n := by omega
    clear hle hmm x1 x2 x3 x4 x5 x6
    simp only at hh1 hk1 ht5
    subst ht5
    have HH1 := hide hh1
    have HG1 := hide hg1
    have HK1 := hide hk1
    have HKS := hide hks1
    have HST := hide hst1
    clear hks1 hst1
    rcases List.eq_nil_or_concat (ls1 1) with hnil | ⟨l0, p, hcat⟩
    · have hz : (ls1 1).length = 0 := by rw [hnil]; rfl
      rw [hz]
      have HNIL := hide hnil
      clear hnil hz hh1 hg1 hk1
      go_wp2
      go_ret
      refine ⟨true, rfl, HK1.out, (fun h => by cases h), fun _ => ⟨ls1, ks1, m, HH1.out, HG1.out, HKS.out, HNIL.out, hmn, fun hne => ?_, fun he => ?_⟩⟩
      · rcases HST.out with ⟨-, h1⟩ | h1
        · rw [h1] at HNIL
          exact absurd HNIL.out hne
        · exact h1.1
      · rcases HST.out with ⟨-, h1⟩ | h1
        · exact h1
        · exact absurd he h1.2
    · have hcat2 : ls1 1 = l0 ++ [p] := by rw [hcat, List.concat_eq_append]
      have hlen : (ls1 1).length = l0.length + 1 := by rw [hcat2, List.length_append]; rfl
      have hl3 : l0.length + 1 ≤ 3000000 := by
        obtain ⟨n0, n1, n2, n3, w0, w1, w2, w3, hs⟩ := hg1.wt
        have h0 := w0.len
        have h1 := w1.len
        have h2 := w2.len
        have h3 := w3.len
        omega
      have hgw := held_gw hh1
      obtain ⟨gb, cap, q0, fz0, hc1, hc2, q1, q2, hpop, hkp⟩ := held_pop hh1 1 (by omega) l0 p hcat2
      simp only [Nat.mul_one] at q0 fz0 hpop hkp
      obtain ⟨a, t, b, u, at1, at2, hF, n0, n1, n2, n3, v0, v1, v2, v3, hsum⟩ := hg1.pop (by omega) hcat2
      have kl := kids_len at1
      have HPOP := hide hpop
      have HKP := hide hkp
      have HCAT := hide hcat2
      have HATS := hide (And.intro at1 (And.intro at2 hF))
      have HWT := hide (And.intro v0 (And.intro v1 (And.intro v2 (And.intro v3 hsum))))
      have hb0 := v0.len
      have hb1 := v1.len
      have hb2 := v2.len
      have hb3 := v3.len
      have hlen0b := hlen
      rw [hlen]
      have hc3 : cap ≤ 9223372036854775807 := hc2
      have hw1 : IntKind.i64.wrap (l0.length : Int) = l0.length := by rw [IntKind.wrap_i64]; omega
      have hw2 : (l0.length : Int) ≤ cap := by omega
      have hw3 : (0 : Int) ≤ l0.length := by omega
      clear hcat hcat2 hpop hkp at1 at2 hF v0 v1 v2 v3 hh1 hg1 hk1 hc2
      have hm2 := HMM.out
      rw [hlen0b] at hm2
      have HM2 := hide hm2
      clear hm2 HMM
      have hba : Below (wr.setCell ⟨g, 2, none⟩ (.slice (some ⟨gb, 0, none⟩) l0.length cap)).heap.size (wr.setCell ⟨g, 2, none⟩ (.slice (some ⟨gb, 0, none⟩) l0.length cap)) ((wr.setCell ⟨g, 2, none⟩ (.slice (some ⟨gb, 0, none⟩) l0.length cap)).alloc (.cells #[.pointer (some p.1), .pointer (some p.2)] 148)) := (Below.refl _ _).alloc (Nat.le_refl _) _
      have HHA := hide (HPOP.out.later hba)
      have HKA := hide ((HK1.out.trans HKP.out).trans (keeps_of hba (held_kw HPOP.out)))
      clear hba
      go_wp2_with fail
      refine (look_dec (F := F) HKPP.out HKA.out HP.out HHA.out HATS.out.1 HATS.out.2.1 (by omega) (by omega)).mono ?_
      rintro e w1 ⟨bb, rfl, hk2, hfa, htr⟩
      cases bb
      · have HFA := hide (hfa rfl)
        have HK2 := hide hk2
        clear hfa htr hk2
        go_wp2
        go_ret
        exact ⟨false, rfl, HK2.out, (fun _ hf => HFA.out (HATS.out.2.2 hf)), fun h => (by cases h)⟩
      · obtain ⟨ls2, ks2, hh2, hpu⟩ := htr rfl
        have hputs := hpu HATS.out.2.2
        obtain ⟨n', hg2, hlt⟩ := HG1.out.next (ls0 := upd ls1 1 l0) (by rw [upd_at]; exact HCAT.out) (fun j hj => upd_other _ _ hj) hputs ⟨n0, n1, n2, n3, HWT.out.1, HWT.out.2.1, HWT.out.2.2.1, HWT.out.2.2.2.1, HWT.out.2.2.2.2⟩
        have hks2 : ∀ j, j < 4 → ∀ q ∈ ks j, q ∈ ks2 j := by
          intro j hj q hq
          obtain ⟨⟨aa, ha, -⟩, -⟩ := hputs
          rw [(ha j hj).2]
          exact List.mem_append_left _ (HKS.out j hj q hq)
        obtain ⟨o9, cap9, c9⟩ := held_len hh2 1 (by omega)
        simp only [Nat.mul_one] at c9
        have hlen2 : (ls2 1).length ≤ 3000000 := by
          obtain ⟨m0, m1, m2, m3, w0, w1, w2, w3, hs⟩ := hg2.wt
          have h0 := w0.len
          have h1 := w1.len
          have h2 := w2.len
          have h3 := w3.len
          omega
        have HNE : Hid (ls 1 ≠ []) := by
          show ls 1 ≠ []
          rcases HST.out with ⟨-, h1⟩ | h1
          · have h8 := HCAT.out
            rw [h1] at h8
            rw [h8]
            simp
          · exact h1.2
        have HH2 := hide hh2
        have HG2 := hide hg2
        have HK2 := hide hk2
        have HKS2 := hide hks2
        clear hfa htr hpu hputs hks2 hh2 hg2 hk2
        go_wp2
        refine ⟨⟨n', ls2, ks2, HH2.out, HG2.out, HK2.out, HKS2.out, .inr ⟨by omega, HNE.out⟩, rfl⟩, ?_⟩
        have h9 := (HMU.out (.int .i64 ((ls2 1).length : Int), w1) n' ⟨ls2, ks2, HH2.out, HG2.out, HK2.out, HKS2.out, .inr ⟨by omega, HNE.out⟩, rfl⟩).2
        rw [HM2.out]
        exact Nat.lt_of_le_of_lt h9 hlt
end Go.Proofs.Yteoghpefilghdal
namespace Go.Proofs.Yteoghpefilghdal
open Go.ChangeShapes Go.WideShapes Go.ChangeAt Go.RowKit

set_option maxHeartbeats 2000000 in
set_option maxRecDepth 100000 in
theorem all_al {W : World} {K KP : Nat → Prop} {F : Prop} {g : Nat} (hKP : ∀ b, KP b → K b) (hp : ∀ b, KP b → PlainAt W ⟨b, 0, none⟩) (w : World) (ls ks : Nat → List (Addr × Addr)) (n : Nat) (hk : Keeps K W w) (hh : HeldMem TT w K g ls ks) (hg : Good W KP F ls ks n) (hn : n ≤ 3000000) :
    Calls Try.prog 40 #[.pointer (some ⟨g, 4, none⟩), .func (.func 41) #[.pointer (some ⟨g, 0, none⟩)] #[]] w fun e w' => ∃ b, e = .returned (.bool b) ∧ Keeps K W w' ∧ (b = false → ¬ F) ∧
      (b = true → ∃ ls' ks' n', HeldMem TT w' K g ls' ks' ∧ Good W KP F ls' ks' n' ∧ (∀ j, j < 4 → ∀ p ∈ ks j, p ∈ ks' j) ∧ ls' 2 = [] ∧ n' ≤ n ∧ (ls 2 ≠ [] → n' < n) ∧ (ls 2 = [] → ls' = ls)) := by
  obtain ⟨mu, hmu⟩ := least_any (α := Value × World) (fun m q => ∃ ls' ks', HeldMem TT q.2 K g ls' ks' ∧ Good W KP F ls' ks' m ∧ Keeps K W q.2 ∧ (∀ j, j < 4 → ∀ p ∈ ks j, p ∈ ks' j) ∧ ((m ≤ n ∧ ls' = ls) ∨ (m < n ∧ ls 2 ≠ [])) ∧ q.1 = .int .i64 ((ls' 2).length : Int))
  have HMU := hide hmu
  have HP := hide hp
  have HKPP := hide hKP
  obtain ⟨oo, capo, c0⟩ := held_len hh 2 (by omega)
  simp only [Nat.reduceMul] at c0
  have HH := hide hh
  have HG := hide hg
  have HK := hide hk
  have hlen0 : (ls 2).length ≤ 3000000 := by
    obtain ⟨n0, n1, n2, n3, w0, w1, w2, w3, hs⟩ := hg.wt
    have h0 := w0.len
    have h1 := w1.len
    have h2 := w2.len
    have h3 := w3.len
    omega
  clear hmu hp hKP hh hg hk
  go_enter Try.func40, Try.ntmps40
  go_wp2
  clear c0
  go_loopw [5] (fun t5 wr => ∃ m ls' ks', HeldMem TT wr K g ls' ks' ∧ Good W KP F ls' ks' m ∧ Keeps K W wr ∧ (∀ j, j < 4 → ∀ p ∈ ks j, p ∈ ks' j) ∧ ((m ≤ n ∧ ls' = ls) ∨ (m < n ∧ ls 2 ≠ [])) ∧ t5 = .int .i64 ((ls' 2).length : Int)) (fun t5 wr => mu (t5, wr))
  case atStart => exact ⟨n, ls, ks, HH.out, HG.out, HK.out, fun _ _ _ h => h, .inl ⟨Nat.le_refl _, rfl⟩, rfl⟩
  case round =>
    obtain ⟨m1, lsx, ksx, x1, x2, x3, x4, x5, x6⟩ := hrel
    obtain ⟨⟨ls1, ks1, hh1, hg1, hk1, hks1, hst1, ht5⟩, hle⟩ := HMU.out (u5, wr) m1 ⟨lsx, ksx, x1, x2, x3, x4, x5, x6⟩
    generalize hmm : mu (u5, wr) = m at hg1 hst1 hle
    have HMM := hide hmm
    have hmn : m ≤ n := by omega
    clear hle hmm x1 x2 x3 x4 x5 x6
    simp only at hh1 hk1 ht5
    subst ht5
    have HH1 := hide hh1
    have HG1 := hide hg1
    have HK1 := hide hk1
    have HKS := hide hks1
    have HST := hide hst1
    clear hks1 hst1
    rcases List.eq_nil_or_concat (ls1 2) with hnil | ⟨l0, p, hcat⟩
    · have hz : (ls1 2).length = 0 := by rw [hnil]; rfl
      rw [hz]
      have HNIL := hide hnil
      clear hnil hz hh1 hg1 hk1
      go_wp2
      go_ret
      refine ⟨true, rfl, HK1.out, (fun h => by cases h), fun _ => ⟨ls1, ks1, m, HH1.out, HG1.out, HKS.out, HNIL.out, hmn, fun hne => ?_, fun he => ?_⟩⟩
      · rcases HST.out with ⟨-, h1⟩ | h1
        · rw [h1] at HNIL
          exact absurd HNIL.out hne
        · exact h1.1
      · rcases HST.out with ⟨-, h1⟩ | h1
        · exact h1
        · exact absurd he h1.2
    · have hcat2 : ls1 2 = l0 ++ [p] := by rw [hcat, List.concat_eq_append]
      have hlen : (ls1 2).length = l0.length + 1 := by rw [hcat2, List.length_append]; rfl
      have hl3 : l0.length + 1 ≤ 3000000 := by
        obtain ⟨n0, n1, n2, n3, w0, w1, w2, w3, hs⟩ := hg1.wt
        have h0 := w0.len
        have h1 := w1.len
        have h2 := w2.len
        have h3 := w3.len
        omega
      have hgw := held_gw hh1
      obtain ⟨gb, cap, q0, fz0, hc1, hc2, q1, q2, hpop, hkp⟩ := held_pop hh1 2 (by omega) l0 p hcat2
      simp only [Nat.reduceMul] at q0 fz0 hpop hkp
      obtain ⟨a, t, b, u, at1, at2, hF, n0, n1, n2, n3, v0, v1, v2, v3, hsum⟩ := hg1.pop (by omega) hcat2
      have kl := kids_len at1
      have HPOP := hide hpop
      have HKP := hide hkp
      have HCAT := hide hcat2
      have HATS := hide (And.intro at1 (And.intro at2 hF))
      have HWT := hide (And.intro v0 (And.intro v1 (And.intro v2 (And.intro v3 hsum))))
      have hb0 := v0.len
      have hb1 := v1.len
      have hb2 := v2.len
      have hb3 := v3.len
      have hlen0b := hlen
      rw [hlen]
      have hc3 : cap ≤ 9223372036854775807 := hc2
      have hw1 : IntKind.i64.wrap (l0.length : Int) = l0.length := by rw [IntKind.wrap_i64]; omega
      have hw2 : (l0.length : Int) ≤ cap := by omega
      have hw3 : (0 : Int) ≤ l0.length := by omega
      clear hcat hcat2 hpop hkp at1 at2 hF v0 v1 v2 v3 hh1 hg1 hk1 hc2
      have hm2 := HMM.out
      rw [hlen0b] at hm2
      have HM2 := hide hm2
      clear hm2 HMM
      have hba : Below (wr.setCell ⟨g, 4, none⟩ (.slice (some ⟨gb, 0, none⟩) l0.length cap)).heap.size (wr.setCell ⟨g, 4, none⟩ (.slice (some ⟨gb, 0, none⟩) l0.length cap)) ((wr.setCell ⟨g, 4, none⟩ (.slice (some ⟨gb, 0, none⟩) l0.length cap)).alloc (.cells #[.pointer (some p.1), .pointer (some p.2)] 153)) := (Below.refl _ _).alloc (Nat.le_refl _) _
      have HHA := hide (HPOP.out.later hba)
      have HKA := hide ((HK1.out.trans HKP.out).trans (keeps_of hba (held_kw HPOP.out)))
      clear hba
      go_wp2_with fail
      refine (look_alt (F := F) HKPP.out HKA.out HP.out HHA.out HATS.out.1 HATS.out.2.1 (by omega)).mono ?_
      rintro e w1 ⟨bb, rfl, hk2, hfa, htr⟩
      cases bb
      · have HFA := hide (hfa rfl)
        have HK2 := hide hk2
        clear hfa htr hk2
        go_wp2
        go_ret
        exact ⟨false, rfl, HK2.out, (fun _ hf => HFA.out (HATS.out.2.2 hf)), fun h => (by cases h)⟩
      · obtain ⟨ls2, ks2, hh2, hpu⟩ := htr rfl
        have hputs := hpu HATS.out.2.2
        obtain ⟨n', hg2, hlt⟩ := HG1.out.next (ls0 := upd ls1 2 l0) (by rw [upd_at]; exact HCAT.out) (fun j hj => upd_other _ _ hj) hputs ⟨n0, n1, n2, n3, HWT.out.1, HWT.out.2.1, HWT.out.2.2.1, HWT.out.2.2.2.1, HWT.out.2.2.2.2⟩
        have hks2 : ∀ j, j < 4 → ∀ q ∈ ks j, q ∈ ks2 j := by
          intro j hj q hq
          obtain ⟨⟨aa, ha, -⟩, -⟩ := hputs
          rw [(ha j hj).2]
          exact List.mem_append_left _ (HKS.out j hj q hq)
        obtain ⟨o9, cap9, c9⟩ := held_len hh2 2 (by omega)
        simp only [Nat.reduceMul] at c9
        have hlen2 : (ls2 2).length ≤ 3000000 := by
          obtain ⟨m0, m1, m2, m3, w0, w1, w2, w3, hs⟩ := hg2.wt
          have h0 := w0.len
          have h1 := w1.len
          have h2 := w2.len
          have h3 := w3.len
          omega
        have HNE : Hid (ls 2 ≠ []) := by
          show ls 2 ≠ []
          rcases HST.out with ⟨-, h1⟩ | h1
          · have h8 := HCAT.out
            rw [h1] at h8
            rw [h8]
            simp
          · exact h1.2
        have HH2 := hide hh2
        have HG2 := hide hg2
        have HK2 := hide hk2
        have HKS2 := hide hks2
        clear hfa htr hpu hputs hks2 hh2 hg2 hk2
        go_wp2
        refine ⟨⟨n', ls2, ks2, HH2.out, HG2.out, HK2.out, HKS2.out, .inr ⟨by omega, HNE.out⟩, rfl⟩, ?_⟩
        have h9 := (HMU.out (.int .i64 ((ls2 2).length : Int), w1) n' ⟨ls2, ks2, HH2.out, HG2.out, HK2.out, HKS2.out, .inr ⟨by omega, HNE.out⟩, rfl⟩).2
        rw [HM2.out]
        exact Nat.lt_of_le_of_lt h9 hlt
end Go.Proofs.Yteoghpefilghdal
namespace Go.Proofs.Yteoghpefilghdal
open Go.ChangeShapes Go.WideShapes Go.ChangeAt Go.RowKit

set_option maxHeartbeats 2000000 in
set_option maxRecDepth 100000 in
theorem all_ty {W : World} {K KP : Nat → Prop} {F : Prop} {g : Nat} (hKP : ∀ b, KP b → K b) (hp : ∀ b, KP b → PlainAt W ⟨b, 0, none⟩) (w : World) (ls ks : Nat → List (Addr × Addr)) (n : Nat) (hk : Keeps K W w) (hh : HeldMem TT w K g ls ks) (hg : Good W KP F ls ks n) (hn : n ≤ 3000000) :
    Calls Try.prog 42 #[.pointer (some ⟨g, 6, none⟩), .func (.func 43) #[.pointer (some ⟨g, 0, none⟩)] #[]] w fun e w' => ∃ b, e = .returned (.bool b) ∧ Keeps K W w' ∧ (b = false → ¬ F) ∧
      (b = true → ∃ ls' ks' n', HeldMem TT w' K g ls' ks' ∧ Good W KP F ls' ks' n' ∧ (∀ j, j < 4 → ∀ p ∈ ks j, p ∈ ks' j) ∧ ls' 3 = [] ∧ n' ≤ n ∧ (ls 3 ≠ [] → n' < n) ∧ (ls 3 = [] → ls' = ls)) := by
  obtain ⟨mu, hmu⟩ := least_any (α := Value × World) (fun m q => ∃ ls' ks', HeldMem TT q.2 K g ls' ks' ∧ Good W KP F ls' ks' m ∧ Keeps K W q.2 ∧ (∀ j, j < 4 → ∀ p ∈ ks j, p ∈ ks' j) ∧ ((m ≤ n ∧ ls' = ls) ∨ (m < n ∧ ls 3 ≠ [])) ∧ q.1 = .int .i64 ((ls' 3).length : Int))
  have HMU := hide hmu
  have HP := hide hp
  have HKPP := hide hKP
  obtain ⟨oo, capo, c0⟩ := held_len hh 3 (by omega)
  simp only [Nat.reduceMul] at c0
  have HH := hide hh
  have HG := hide hg
  have HK := hide hk
  have hlen0 : (ls 3).length ≤ 3000000 := by
    obtain ⟨n0, n1, n2, n3, w0, w1, w2, w3, hs⟩ := hg.wt
    have h0 := w0.len
    have h1 := w1.len
    have h2 := w2.len
    have h3 := w3.len
    omega
  clear hmu hp hKP hh hg hk
  go_enter Try.func42, Try.ntmps42
  go_wp2
  clear c0
  go_loopw [5] (fun t5 wr => ∃ m ls' ks', HeldMem TT wr K g ls' ks' ∧ Good W KP F ls' ks' m ∧ Keeps K W wr ∧ (∀ j, j < 4 → ∀ p ∈ ks j, p ∈ ks' j) ∧ ((m ≤ n ∧ ls' = ls) ∨ (m < n ∧ ls 3 ≠ [])) ∧ t5 = .int .i64 ((ls' 3).length : Int)) (fun t5 wr => mu (t5, wr))
  case atStart => exact ⟨n, ls, ks, HH.out, HG.out, HK.out, fun _ _ _ h => h, .inl ⟨Nat.le_refl _, rfl⟩, rfl⟩
  case round =>
    obtain ⟨m1, lsx, ksx, x1, x2, x3, x4, x5, x6⟩ := hrel
    obtain ⟨⟨ls1, ks1, hh1, hg1, hk1, hks1, hst1, ht5⟩, hle⟩ := HMU.out (u5, wr) m1 ⟨lsx, ksx, x1, x2, x3, x4, x5, x6⟩
    generalize hmm : mu (u5, wr) = m at hg1 hst1 hle
    have HMM := hide hmm
    have hmn : m ≤ n := by omega
    clear hle hmm x1 x2 x3 x4 x5 x6
    simp only at hh1 hk1 ht5
    subst ht5
    have HH1 := hide hh1
    have HG1 := hide hg1
    have HK1 := hide hk1
    have HKS := hide hks1
    have HST := hide hst1
    clear hks1 hst1
    rcases List.eq_nil_or_concat (ls1 3) with hnil | ⟨l0, p, hcat⟩
    · have hz : (ls1 3).length = 0 := by rw [hnil]; rfl
      rw [hz]
      have HNIL := hide hnil
      clear hnil hz hh1 hg1 hk1
      go_wp2
      go_ret
      refine ⟨true, rfl, HK1.out, (fun h => by cases h), fun _ => ⟨ls1, ks1, m, HH1.out, HG1.out, HKS.out, HNIL.out, hmn, fun hne => ?_, fun he => ?_⟩⟩
      · rcases HST.out with ⟨-, h1⟩ | h1
        · rw [h1] at HNIL
          exact absurd HNIL.out hne
        · exact h1.1
      · rcases HST.out with ⟨-, h1⟩ | h1
        · exact h1
        · exact absurd he h1.2
    · have hcat2 : ls1 3 = l0 ++ [p] := by rw [hcat, List.concat_eq_append]
      have hlen : (ls1 3).length = l0.length + 1 := by rw [hcat2, List.length_append]; rfl
      have hl3 : l0.length + 1 ≤ 3000000 := by
        obtain ⟨n0, n1, n2, n3, w0, w1, w2, w3, hs⟩ := hg1.wt
        have h0 := w0.len
        have h1 := w1.len
        have h2 := w2.len
        have h3 := w3.len
        omega
      have hgw := held_gw hh1
      obtain ⟨gb, cap, q0, fz0, hc1, hc2, q1, q2, hpop, hkp⟩ := held_pop hh1 3 (by omega) l0 p hcat2
      simp only [Nat.reduceMul] at q0 fz0 hpop hkp
      obtain ⟨a, t, b, u, at1, at2, hF, n0, n1, n2, n3, v0, v1, v2, v3, hsum⟩ := hg1.pop (by omega) hcat2
      have kl := kids_len at1
      have HPOP := hide hpop
      have HKP := hide hkp
      have HCAT := hide hcat2
      have HATS := hide (And.intro at1 (And.intro at2 hF))
      have HWT := hide (And.intro v0 (And.intro v1 (And.intro v2 (And.intro v3 hsum))))
      have hb0 := v0.len
      have hb1 := v1.len
      have hb2 := v2.len
      have hb3 := v3.len
      have hlen0b := hlen
      rw [hlen]
      have hc3 : cap ≤ 9223372036854775807 := hc2
      have hw1 : IntKind.i64.wrap (l0.length : Int) = l0.length := by rw [IntKind.wrap_i64]; omega
      have hw2 : (l0.length : Int) ≤ cap := by omega
      have hw3 : (0 : Int) ≤ l0.length := by omega
      clear hcat hcat2 hpop hkp at1 at2 hF v0 v1 v2 v3 hh1 hg1 hk1 hc2
      have hm2 := HMM.out
      rw [hlen0b] at hm2
      have HM2 := hide hm2
      clear hm2 HMM
      have hba : Below (wr.setCell ⟨g, 6, none⟩ (.slice (some ⟨gb, 0, none⟩) l0.length cap)).heap.size (wr.setCell ⟨g, 6, none⟩ (.slice (some ⟨gb, 0, none⟩) l0.length cap)) ((wr.setCell ⟨g, 6, none⟩ (.slice (some ⟨gb, 0, none⟩) l0.length cap)).alloc (.cells #[.pointer (some p.1), .pointer (some p.2)] 113)) := (Below.refl _ _).alloc (Nat.le_refl _) _
      have HHA := hide (HPOP.out.later hba)
      have HKA := hide ((HK1.out.trans HKP.out).trans (keeps_of hba (held_kw HPOP.out)))
      clear hba
      go_wp2_with fail
      refine (look_ty (F := F) HKPP.out HKA.out HP.out HHA.out HATS.out.1 HATS.out.2.1 (by omega)).mono ?_
      rintro e w1 ⟨bb, rfl, hk2, hfa, htr⟩
      cases bb
      · have HFA := hide (hfa rfl)
        have HK2 := hide hk2
        clear hfa htr hk2
        go_wp2
        go_ret
        exact ⟨false, rfl, HK2.out, (fun _ hf => HFA.out (HATS.out.2.2 hf)), fun h => (by cases h)⟩
      · obtain ⟨ls2, ks2, hh2, hpu⟩ := htr rfl
        have hputs := hpu HATS.out.2.2
        obtain ⟨n', hg2, hlt⟩ := HG1.out.next (ls0 := upd ls1 3 l0) (by rw [upd_at]; exact HCAT.out) (fun j hj => upd_other _ _ hj) hputs ⟨n0, n1, n2, n3, HWT.out.1, HWT.out.2.1, HWT.out.2.2.1, HWT.out.2.2.2.1, HWT.out.2.2.2.2⟩
        have hks2 : ∀ j, j < 4 → ∀ q ∈ ks j, q ∈ ks2 j := by
          intro j hj q hq
          obtain ⟨⟨aa, ha, -⟩, -⟩ := hputs
          rw [(ha j hj).2]
          exact List.mem_append_left _ (HKS.out j hj q hq)
        obtain ⟨o9, cap9, c9⟩ := held_len hh2 3 (by omega)
        simp only [Nat.reduceMul] at c9
        have hlen2 : (ls2 3).length ≤ 3000000 := by
          obtain ⟨m0, m1, m2, m3, w0, w1, w2, w3, hs⟩ := hg2.wt
          have h0 := w0.len
          have h1 := w1.len
          have h2 := w2.len
          have h3 := w3.len
          omega
        have HNE : Hid (ls 3 ≠ []) := by
          show ls 3 ≠ []
          rcases HST.out with ⟨-, h1⟩ | h1
          · have h8 := HCAT.out
            rw [h1] at h8
            rw [h8]
            simp
          · exact h1.2
        have HH2 := hide hh2
        have HG2 := hide hg2
        have HK2 := hide hk2
        have HKS2 := hide hks2
        clear hfa htr hpu hputs hks2 hh2 hg2 hk2
        go_wp2
        refine ⟨⟨n', ls2, ks2, HH2.out, HG2.out, HK2.out, HKS2.out, .inr ⟨by omega, HNE.out⟩, rfl⟩, ?_⟩
        have h9 := (HMU.out (.int .i64 ((ls2 3).length : Int), w1) n' ⟨ls2, ks2, HH2.out, HG2.out, HK2.out, HKS2.out, .inr ⟨by omega, HNE.out⟩, rfl⟩).2
        rw [HM2.out]
        exact Nat.lt_of_le_of_lt h9 hlt
end Go.Proofs.Yteoghpefilghdal
