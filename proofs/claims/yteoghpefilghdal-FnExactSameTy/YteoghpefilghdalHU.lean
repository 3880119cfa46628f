/- The program's areSame: all that is left is looked at, until nothing is. -/
import Derived.Test.YteoghpefilghdalGT
namespace Go.Proofs.Yteoghpefilghdal
open Go.ChangeShapes Go.WideShapes Go.ChangeAt Go.RowKit

set_option maxHeartbeats 2000000 in
set_option maxRecDepth 100000 in
theorem areSame_any {W : World} {K KP : Nat → Prop} {F : Prop} {g : Nat} (hKP : ∀ b, KP b → K b) (hp : ∀ b, KP b → PlainAt W ⟨b, 0, none⟩) (w : World) (ls ks : Nat → List (Addr × Addr)) (n : Nat) (hk : Keeps K W w) (hh : HeldMem TT w K g ls ks) (hg : Good W KP F ls ks n) (hn : n ≤ 3000000) :
    Calls Try.prog 26 #[.pointer (some ⟨g, 0, none⟩)] w fun e w' => ∃ b, e = .returned (.bool b) ∧ Keeps K W w' ∧ (b = false → ¬ F) ∧ (b = true → ∃ ks', (∀ j, j < 4 → ∀ p ∈ ks j, p ∈ ks' j) ∧ ∀ i, i < 4 → ∀ p ∈ ks' i, Done W KP ks' i p) := by
  obtain ⟨mu, hmu⟩ := least_any (α := World) (fun m v => ∃ ls' ks', HeldMem TT v K g ls' ks' ∧ Good W KP F ls' ks' m ∧ Keeps K W v ∧ (∀ j, j < 4 → ∀ p ∈ ks j, p ∈ ks' j) ∧ m ≤ n)
  have HMU := hide hmu
  have HP := hide hp
  have HKPP := hide hKP
  have HH := hide hh
  have HG := hide hg
  have HK := hide hk
  clear hmu hp hKP hh hg hk
  go_enter Try.func26, Try.ntmps26
  go_wp2
  go_loopw [] (fun wr => ∃ m ls' ks', HeldMem TT wr K g ls' ks' ∧ Good W KP F ls' ks' m ∧ Keeps K W wr ∧ (∀ j, j < 4 → ∀ p ∈ ks j, p ∈ ks' j) ∧ m ≤ n) (fun wr => mu wr)
  case atStart => exact ⟨n, ls, ks, HH.out, HG.out, HK.out, fun _ _ _ h => h, Nat.le_refl _⟩
  case round =>
    obtain ⟨m1, lsx, ksx, x1, x2, x3, x4, x5⟩ := hrel
    obtain ⟨⟨ls1, ks1, hh1, hg1, hk1, hks1, hmn⟩, hle⟩ := HMU.out wr m1 ⟨lsx, ksx, x1, x2, x3, x4, x5⟩
    generalize mu wr = m at hg1 hmn hle ⊢
    clear hle x1 x2 x3 x4 x5
    obtain ⟨o0, cap0, c0⟩ := held_len hh1 0 (by omega)
    obtain ⟨o1, cap1, c2⟩ := held_len hh1 1 (by omega)
    obtain ⟨o2, cap2, c4⟩ := held_len hh1 2 (by omega)
    obtain ⟨o3, cap3, c6⟩ := held_len hh1 3 (by omega)
    simp only [Nat.mul_zero, Nat.mul_one, Nat.reduceMul] at c0 c2 c4 c6
    have hlens : (ls1 0).length ≤ 3000000 ∧ (ls1 1).length ≤ 3000000 ∧ (ls1 2).length ≤ 3000000 ∧ (ls1 3).length ≤ 3000000 := by
      obtain ⟨n0, n1, n2, n3, w0, w1, w2, w3, hs⟩ := hg1.wt
      have h0 := w0.len
      have h1 := w1.len
      have h2 := w2.len
      have h3 := w3.len
      omega
    obtain ⟨hl0, hl1, hl2, hl3⟩ := hlens
    have HH1 := hide hh1
    have HG1 := hide hg1
    have HK1 := hide hk1
    have HKS := hide hks1
    clear hh1 hg1 hk1 hks1
    generalize hL0 : (ls1 0).length = L0 at c0 hl0
    generalize hL1 : (ls1 1).length = L1 at c2 hl1
    generalize hL2 : (ls1 2).length = L2 at c4 hl2
    generalize hL3 : (ls1 3).length = L3 at c6 hl3
    have HL := hide (And.intro hL0 (And.intro hL1 (And.intro hL2 hL3)))
    clear hL0 hL1 hL2 hL3
    by_cases hz : L0 + L1 + L2 + L3 = 0
    · have z0 : L0 = 0 := by omega
      have z1 : L1 = 0 := by omega
      have z2 : L2 = 0 := by omega
      have z3 : L3 = 0 := by omega
      subst z0 z1 z2 z3
      go_wp2
      go_quiet (fail)
      go_wp2
      go_ret
      refine ⟨true, rfl, HK1.out.trans (keeps_drew K _ _), (fun h => by cases h), fun _ => ⟨ks1, HKS.out, fun i hi p hpi => ?_⟩⟩
      rcases HG1.out.done i hi p hpi with h1 | h1
      · exfalso
        have e0 := List.length_eq_zero_iff.1 HL.out.1
        have e1 := List.length_eq_zero_iff.1 HL.out.2.1
        have e2 := List.length_eq_zero_iff.1 HL.out.2.2.1
        have e3 := List.length_eq_zero_iff.1 HL.out.2.2.2
        match i, hi with
        | 0, _ => rw [e0] at h1; cases h1
        | 1, _ => rw [e1] at h1; cases h1
        | 2, _ => rw [e2] at h1; cases h1
        | 3, _ => rw [e3] at h1; cases h1
      · exact h1
    · have hpos : (0 : Int) < (L0 : Int) + L1 + L2 + L3 := by omega
      have hpos2 : 0 < L0 + L1 + L2 + L3 := by omega
      clear hz
      go_wp2
      go_quiet (fail)
      generalize hV : wr.drewN nq = V
      have hbv : Below wr.heap.size wr V := by rw [← hV]; exact ⟨rfl, rfl, rfl, Nat.le_refl _, fun _ _ => rfl⟩
      have HHV := hide (HH1.out.later hbv)
      have hkv : Keeps K wr V := by rw [← hV]; exact keeps_drew K wr nq
      have HKV := hide (HK1.out.trans hkv)
      clear hkv
      clear hV hbv c0 c2 c4 c6
      go_wp2_with fail
      refine (all_ex HKPP.out HP.out V ls1 ks1 m HKV.out HHV.out HG1.out (by omega)).mono ?_
      rintro e w1 ⟨b1, rfl, k1, f1, t1⟩
      cases b1
      · have HF1 := hide (f1 rfl)
        have HK2 := hide k1
        clear k1 f1 t1
        go_wp2
        go_ret
        exact ⟨false, rfl, HK2.out, (fun _ => HF1.out), fun h => (by cases h)⟩
      obtain ⟨ls2, ks2, m2, hh2, hg2, hks2, -, hm2, hs2, he2⟩ := t1 rfl
      have HH2 := hide hh2
      have HG2 := hide hg2
      have HK2 := hide k1
      have HKS2 := hide hks2
      have HS2 := hide (And.intro hs2 he2)
      clear k1 f1 t1 hh2 hg2 hks2 hs2 he2
      go_wp2_with fail
      refine (all_de HKPP.out HP.out w1 ls2 ks2 m2 HK2.out HH2.out HG2.out (by omega)).mono ?_
      rintro e w2 ⟨b2, rfl, k1, f1, t1⟩
      cases b2
      · have HF1 := hide (f1 rfl)
        have HK3 := hide k1
        clear k1 f1 t1
        go_wp2
        go_ret
        exact ⟨false, rfl, HK3.out, (fun _ => HF1.out), fun h => (by cases h)⟩
      obtain ⟨ls3, ks3, m3, hh3, hg3, hks3, -, hm3, hs3, he3⟩ := t1 rfl
      have HH3 := hide hh3
      have HG3 := hide hg3
      have HK3 := hide k1
      have HKS3 := hide hks3
      have HS3 := hide (And.intro hs3 he3)
      clear k1 f1 t1 hh3 hg3 hks3 hs3 he3
      go_wp2_with fail
      refine (all_al HKPP.out HP.out w2 ls3 ks3 m3 HK3.out HH3.out HG3.out (by omega)).mono ?_
      rintro e w3 ⟨b3, rfl, k1, f1, t1⟩
      cases b3
      · have HF1 := hide (f1 rfl)
        have HK4 := hide k1
        clear k1 f1 t1
        go_wp2
        go_ret
        exact ⟨false, rfl, HK4.out, (fun _ => HF1.out), fun h => (by cases h)⟩
      obtain ⟨ls4, ks4, m4, hh4, hg4, hks4, -, hm4, hs4, he4⟩ := t1 rfl
      have HH4 := hide hh4
      have HG4 := hide hg4
      have HK4 := hide k1
      have HKS4 := hide hks4
      have HS4 := hide (And.intro hs4 he4)
      clear k1 f1 t1 hh4 hg4 hks4 hs4 he4
      go_wp2_with fail
      refine (all_ty HKPP.out HP.out w3 ls4 ks4 m4 HK4.out HH4.out HG4.out (by omega)).mono ?_
      rintro e w4 ⟨b4, rfl, k1, f1, t1⟩
      cases b4
      · have HF1 := hide (f1 rfl)
        have HK5 := hide k1
        clear k1 f1 t1
        go_wp2
        go_ret
        exact ⟨false, rfl, HK5.out, (fun _ => HF1.out), fun h => (by cases h)⟩
      obtain ⟨ls5, ks5, m5, hh5, hg5, hks5, -, hm5, hs5, he5⟩ := t1 rfl
      have HH5 := hide hh5
      have HG5 := hide hg5
      have HK5 := hide k1
      have HKS6 := hide hks5
      have HS5 := hide (And.intro hs5 he5)
      clear k1 f1 t1 hh5 hg5 hks5 hs5 he5
      have HLT : Hid (m5 < m) := by
        show m5 < m
        by_cases a0 : ls1 0 = []
        · have e2 := HS2.out.2 a0
          by_cases a1 : ls1 1 = []
          · have e3 := HS3.out.2 (by rw [e2]; exact a1)
            by_cases a2 : ls1 2 = []
            · have e4 := HS4.out.2 (by rw [e3, e2]; exact a2)
              have a3 : ls1 3 ≠ [] := by
                intro a3
                have h0 := HL.out.1
                have h1 := HL.out.2.1
                have h2 := HL.out.2.2.1
                have h3 := HL.out.2.2.2
                rw [a0] at h0
                rw [a1] at h1
                rw [a2] at h2
                rw [a3] at h3
                simp at h0 h1 h2 h3
                omega
              have := HS5.out.1 (by rw [e4, e3, e2]; exact a3)
              omega
            · have := HS4.out.1 (by rw [e3, e2]; exact a2)
              omega
          · have := HS3.out.1 (by rw [e2]; exact a1)
            omega
        · have := HS2.out.1 a0
          omega
      have HKS5 : Hid (∀ j, j < 4 → ∀ p ∈ ks j, p ∈ ks5 j) := fun j hj p hpj => HKS6.out j hj p (HKS4.out j hj p (HKS3.out j hj p (HKS2.out j hj p (HKS.out j hj p hpj))))
      go_wp2
      refine ⟨⟨m5, ls5, ks5, HH5.out, HG5.out, HK5.out, HKS5.out, by omega⟩, ?_⟩
      have h9 := (HMU.out w4 m5 ⟨ls5, ks5, HH5.out, HG5.out, HK5.out, HKS5.out, by omega⟩).2
      exact Nat.lt_of_le_of_lt h9 HLT.out
end Go.Proofs.Yteoghpefilghdal
