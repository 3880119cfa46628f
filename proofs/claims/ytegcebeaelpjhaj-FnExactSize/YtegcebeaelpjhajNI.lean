/- The program's Size. -/
import Derived.Test.YtegcebeaelpjhajNH
namespace Go.Proofs.Ytegcebeaelpjhaj
open Go.ChangeShapes Go.WideShapes Go.ChangeAt Go.RowKit

/-- Of what holds of a number and a thing: the least such number. -/
theorem least_num {α : Type} (G : Nat → α → Prop) : ∃ mu : α → Nat, ∀ m x, G m x → G (mu x) x ∧ mu x ≤ m := by
  have h : ∀ x, ∃ n, ∀ m, G m x → G n x ∧ n ≤ m := by
    intro x
    by_cases he : ∃ m, G m x
    · obtain ⟨m, hm⟩ := he
      induction m using Nat.strongRecOn with
      | ind m ih =>
        by_cases hl : ∃ k, k < m ∧ G k x
        · obtain ⟨k, hk, hg⟩ := hl
          exact ih k hk hg
        · refine ⟨m, fun k hk => ⟨hm, ?_⟩⟩
          rcases Nat.lt_or_ge k m with h1 | h1
          · exact absurd ⟨k, h1, hk⟩ hl
          · exact h1
    · exact ⟨0, fun m hm => absurd ⟨m, hm⟩ he⟩
  obtain ⟨f, hf⟩ := Classical.axiomOfChoice h
  exact ⟨f, fun m x hm => hf x m hm⟩
theorem reads_in2 {K K' : Nat → Prop} {w : World} (hK : ∀ b, K b → b < w.heap.size → K' b) : ∀ h, (∀ e cs, (reads K w h).ex e cs → (reads K' w h).ex e cs) ∧ (∀ d cs, (reads K w h).de d cs → (reads K' w h).de d cs) ∧ (∀ a cs, (reads K w h).al a cs → (reads K' w h).al a cs) := by
  have row_in : ∀ {α : Type} {R R' : α → List Value → Prop} {size : Nat} {o : Option Addr} {xs : List α}, RowOf K w R size o xs → (∀ x cs, R x cs → R' x cs) → RowOf K' w R' size o xs := by
    intro α R R' size o xs hm hR hne
    obtain ⟨b, off, e, hk, hl, hc⟩ := hm hne
    refine ⟨b, off, e, hK b hk hl, hl, fun i x hx => ?_⟩
    obtain ⟨cs, h1, h2, h3⟩ := hc i x hx
    exact ⟨cs, h1, h2, hR x cs h3⟩
  intro h
  induction h with
  | zero => exact ⟨fun _ _ h => h, fun _ _ h => h, fun _ _ h => h⟩
  | succ h ih =>
    obtain ⟨ih1, ih2, ih3⟩ := ih
    refine ⟨fun e cs he => ?_, fun d cs hd => ?_, fun a cs ha => ?_⟩
    · obtain ⟨e0, o1, c1, o2, c2, o3, c3, e1, e2, e3, e4, e5, r1, r2, r3⟩ := he
      exact ⟨e0, o1, c1, o2, c2, o3, c3, e1, e2, e3, e4, e5, row_in r1 ih1, row_in r2 ih2, row_in r3 ih3⟩
    · obtain ⟨d0, d1, d2, e, o1, c1, ce, o2, c2, e0, e1, e2, e3, e4, r1, e5, r2, r3⟩ := hd
      exact ⟨d0, d1, d2, e, o1, c1, ce, o2, c2, e0, e1, e2, e3, e4, row_in r1 (fun _ _ h => h), e5, ih1 _ _ r2, row_in r3 ih2⟩
    · obtain ⟨a0, a1, a2, a3, e, o1, c1, ce, e0, e1, e2, e3, r1, e4, r2⟩ := ha
      exact ⟨a0, a1, a2, a3, e, o1, c1, ce, e0, e1, e2, e3, row_in r1 (fun _ _ h => h), e4, ih1 _ _ r2⟩
/-- Where Size stands at the head of its loop. -/
structure SizeAt (V : World) (K : Nat → Prop) (cE cD : Addr → Nat) (total s1 s2 b4 : Nat) (wr : World) (v3 v5 v6 : Value) (m : Nat) : Prop where
  at_ : ∃ (size k bl m1 m2 : Nat) (E D S1 S2 : List (Addr × Nat)), v3 = .int .i64 (size : Int) ∧ v5 = .int .i64 (k : Int) ∧ v6 = .pointer (some ⟨bl, 0, none⟩) ∧ wr.heap[bl]? = some (.cells #[.map (some m1), .map (some m2)] 97 (0, 0)) ∧ wr.heap[b4]? = some (.cells #[.map (some s1), .map (some s2)] 97 (0, 0)) ∧
    PMap wr m1 E ∧ PMap wr m2 D ∧ PMap wr s1 S1 ∧ PMap wr s2 S2 ∧ m1 ≠ m2 ∧ s1 ≠ s2 ∧ s1 ≠ m1 ∧ s1 ≠ m2 ∧ s2 ≠ m1 ∧ s2 ≠ m2 ∧ bl ≠ b4 ∧ V.heap.size ≤ bl ∧ V.heap.size ≤ m1 ∧ V.heap.size ≤ m2 ∧ Layer V K cE cD total size k E D S1 S2 ∧ m = wsum (mm cE cD true) E + wsum (mm cE cD false) D ∧ k + m ≤ 2 * total ∧ S1.length + S2.length ≤ total * k
  keeps : Below V.heap.size V wr
theorem seen_len {S S' E : List (Addr × Nat)} (hn : (keysOf S').Nodup) (h : ∀ x, x ∈ keysOf S' ↔ x ∈ keysOf S ∨ x ∈ keysOf E) : S'.length ≤ S.length + E.length := by
  have h1 := nodup_len (keysOf S') (keysOf S ++ keysOf E) hn fun x hx => List.mem_append.2 ((h x).1 hx)
  simpa [keysOf] using h1
theorem mul_bound {total k : Nat} (h1 : total ≤ 3000000) (h2 : k ≤ 2 * total) : total * k ≤ 18000000000000 := by
  have h3 : total * k ≤ 3000000 * 6000000 := Nat.mul_le_mul h1 (by omega)
  omega

set_option maxHeartbeats 2000000 in
set_option maxRecDepth 100000 in
theorem implSize_any {w : World} {B h : Nat} {t : Tr} {ca : List Value} (hB : B ≤ w.heap.size) (hpl : ∀ b, B ≤ b → b < w.heap.size → ∃ c e, w.heap[b]? = some (.cells c e (0, 0))) (ra : (reads (FromK B) w h).ex t ca) (hn : (cnt h).ex t ≤ 3000000) :
    Calls Try.prog 14 #[.agg ca.toArray] w fun e w' => e = .returned (.int .i64 ((cnt h).ex t : Nat)) ∧ Below w.heap.size w w' := by
  obtain ⟨o1, c1, o2, c2, o3, c3, rfl⟩ := ex_form ra
  generalize hV : w.alloc (.cells #[.int .i64 t.k, .string t.s, .int .i64 t.n, .slice o1 t.l.length c1, .slice o2 t.ds.length c2, .slice o3 t.al.length c3] 43) = V
  have hbV : Below w.heap.size w V := by rw [← hV]; exact (Below.refl _ w).alloc (Nat.le_refl _) _
  have hsV : V.heap.size = w.heap.size + 1 := by rw [← hV]; simp
  have ha : V.heap[w.heap.size]? = some (.cells #[.int .i64 t.k, .string t.s, .int .i64 t.n, .slice o1 t.l.length c1, .slice o2 t.ds.length c2, .slice o3 t.al.length c3] 43 (0, 0)) := by rw [← hV]; exact heap_alloc_new w _
  have hp : ∀ b, (B ≤ b ∧ b < w.heap.size + 1) → PlainAt V ⟨b, 0, none⟩ := by
    rintro b ⟨h1, h2⟩
    by_cases e1 : b < w.heap.size
    · obtain ⟨c, e, hc⟩ := hpl b h1 e1
      exact ⟨c, e, (hbV.block b e1).trans hc⟩
    · have e2 : b = w.heap.size := by omega
      subst e2
      exact ⟨_, _, ha⟩
  have rin : ∀ b, FromK B b → b < w.heap.size → (B ≤ b ∧ b < w.heap.size + 1) := fun b h1 h2 => ⟨h1, by omega⟩
  have at1 : AtE V (fun b => B ≤ b ∧ b < w.heap.size + 1) h ⟨w.heap.size, 0, none⟩ t := by
    refine ⟨rfl, ⟨hB, by simp⟩, _, rfl, fun j v hv => ?_, (reads_later hbV h).1 _ _ ((reads_in2 rin h).1 _ _ ra)⟩
    have h9 := cell_of ha j
    simp only [Nat.zero_add]
    rw [h9, List.getElem?_toArray]
    exact hv
  obtain ⟨cE, cD, hcn⟩ := cnts_ex V (fun b => B ≤ b ∧ b < w.heap.size + 1)
  have htot : cE ⟨w.heap.size, 0, none⟩ = (cnt h).ex t := hcn.e at1
  have HCN := hide hcn
  clear hcn
  rw [← htot] at hn ⊢
  generalize hT : cE ⟨w.heap.size, 0, none⟩ = total at hn ⊢
  have HT := hide hT
  have HP := hide hp
  have HAT := hide at1
  have HBV := hide hbV
  clear hpl ra ha hp rin at1 htot hT hbV
  go_enter Try.func14, Try.ntmps14
  go_wp2_with fail
  refine (newLayer_some V).mono ?_
  rintro e w1 ⟨s1, s2, rfl, hs1, hs2, hb1, hge, hlt, hlt2⟩
  rw [hsV] at hge
  generalize hV0 : w1.alloc (.cells #[.map (some s1), .map (some s2)] 97) = V0
  have hbV0 : Below w1.heap.size w1 V0 := by rw [← hV0]; exact (Below.refl _ w1).alloc (Nat.le_refl _) _
  have hsV0 : V0.heap.size = w1.heap.size + 1 := by rw [← hV0]; simp
  have hc0 : V0.heap[w1.heap.size]? = some (.cells #[.map (some s1), .map (some s2)] 97 (0, 0)) := by rw [← hV0]; exact heap_alloc_new w1 _
  have hz1 := hb1.size
  have hbA : Below V.heap.size V V0 := hb1.trans (hbV0.mono hz1)
  have HLO := hide (layerOf_any V0 ⟨w.heap.size, 0, none⟩ (plain_keep (a := ⟨w.heap.size, 0, none⟩) (HP.out w.heap.size ⟨hB, by omega⟩) (hbA.block w.heap.size (by omega))))
  have HC0 := hide hc0
  have HBA := hide hbA
  have HS1 := hide (hs1.keep (hbV0.block s1 (by omega)))
  have HS2 := hide (hs2.keep (hbV0.block s2 hlt2))
  clear hs1 hs2 hb1 hbV0 hc0 hbA
  go_wp2_with fail
  refine HLO.out.mono ?_
  rintro e w2 ⟨m1, m2, rfl, hm1, hm2, hb2, hge2, hlt3⟩
  rw [hsV0] at hb2 hge2
  have hlm1 := hm1.lt
  have hlm2 := hm2.lt
  have hz2 := hb2.size
  obtain ⟨mu, hmu⟩ := least_num (α := Value × Value × Value × World) (fun m x => SizeAt V (fun b => B ≤ b ∧ b < w.heap.size + 1) cE cD total s1 s2 w1.heap.size x.2.2.2 x.1 x.2.1 x.2.2.1 m)
  have HMU := hide hmu
  generalize hV3 : w2.alloc (.cells #[.map (some m1), .map (some m2)] 97) = V3
  have hbV3 : Below w2.heap.size w2 V3 := by rw [← hV3]; exact (Below.refl _ w2).alloc (Nat.le_refl _) _
  have hc3 : V3.heap[w2.heap.size]? = some (.cells #[.map (some m1), .map (some m2)] 97 (0, 0)) := by rw [← hV3]; exact heap_alloc_new w2 _
  have HSTART : Hid (SizeAt V (fun b => B ≤ b ∧ b < w.heap.size + 1) cE cD total s1 s2 w1.heap.size V3 (.int .i64 0) (.int .i64 0) (.pointer (some ⟨w2.heap.size, 0, none⟩)) (2 * total - 1)) := by
    have hcp := cE_pos HCN.out HAT.out
    rw [HT.out] at hcp
    refine ⟨⟨0, 0, w2.heap.size, m1, m2, [(⟨w.heap.size, 0, none⟩, 1)], [], [], [], rfl, rfl, rfl, hc3, (hbV3.block w1.heap.size (by omega)).trans ((hb2.block w1.heap.size (by omega)).trans HC0.out), hm1.keep (hbV3.block m1 hlm1), hm2.keep (hbV3.block m2 hlm2), (HS1.out.keep (hb2.block s1 (by omega))).keep (hbV3.block s1 (by omega)), (HS2.out.keep (hb2.block s2 (by omega))).keep (hbV3.block s2 (by omega)), by omega, by omega, by omega, by omega, by omega, by omega, by omega, by omega, by omega, by omega, ⟨?_, ?_, ?_, ?_, ?_, ?_⟩, ?_, by omega, by simp⟩, HBA.out.trans ((hb2.mono (by omega)).trans (hbV3.mono (by omega)))⟩
    · rw [wsum_one, wsum_nil, HT.out]
      omega
    · intro p hp
      rw [List.mem_singleton] at hp
      subst hp
      exact ⟨⟨h, t, HAT.out⟩, Nat.le_refl _⟩
    · intro p hp
      cases hp
    · exact ⟨fun a ha => (by cases ha), fun a ha => (by cases ha)⟩
    · intro a ha
      exact ⟨[], rfl, List.nodup_nil, fun q hq => (by cases hq), fun q hq => (by cases hq)⟩
    · intro a ha
      cases ha
    · rw [wsum_one, wsum_nil, mm_e, HT.out]
      omega
  clear hm1 hm2 hb2 hmu hbV3 hc3 HS1 HS2 HC0
  go_wp2
  go_loopw [3, 5, 6] (fun v3 v5 v6 wr => ∃ m, SizeAt V (fun b => B ≤ b ∧ b < w.heap.size + 1) cE cD total s1 s2 w1.heap.size wr v3 v5 v6 m) (fun v3 v5 v6 wr => mu (v3, v5, v6, wr))
  case atStart => exact ⟨_, HSTART.out⟩
  case round =>
    obtain ⟨m0, hsz⟩ := hrel
    obtain ⟨hsm, -⟩ := HMU.out m0 (_, _, _, wr) hsz
    clear hsz
    generalize hmm : mu _ = m at hsm ⊢
    obtain ⟨⟨size, k, bl, m1, m2, E, D, S1, S2, rfl, rfl, rfl, hbl, hb4, hm1, hm2, hs1, hs2, d0, d1, d2, d3, d4, d5, d6, g1, g2, g3, hlay, hm, hkm, hsl⟩, hkeep⟩ := hsm
    have hbd := hlay.bounds HCN.out
    have hmb := mul_bound hn (k := k) (by omega)
    obtain ⟨bd1, bd2, bd3, bd4⟩ := hbd
    have z0 := cell_of hbl 0
    have z1 := cell_of hbl 1
    simp only [List.getElem?_toArray, List.getElem?_cons_succ, List.getElem?_cons_zero] at z0 z1
    have hlbl := heap_lt hbl
    have hlb4 := heap_lt hb4
    have lm1 := hm1.lt
    have lm2 := hm2.lt
    have ls1 := hs1.lt
    have ls2 := hs2.lt
    have HISE := hide (isEmpty_any wr m1 m2 E D hm1 hm2 (by omega))
    have HBL := hide hbl
    have HB4 := hide hb4
    have HM1 := hide hm1
    have HM2 := hide hm2
    have HS1 := hide hs1
    have HS2 := hide hs2
    have HLAY := hide hlay
    have HKEEP := hide hkeep
    have HM := hide hm
    have HMM := hide hmm
    clear hbl hb4 hm1 hm2 hs1 hs2 hlay hkeep hm hmm
    by_cases hemp : E.length + D.length = 0
    · have hd : decide (E.length + D.length = 0) = true := decide_eq_true hemp
      have HEMP := hide hemp
      rw [hd] at HISE
      clear hemp hd
      go_wp2_with fail
      refine HISE.out.mono ?_
      rintro e wA ⟨rfl, hbA⟩
      have HBA2 := hide hbA
      clear hbA
      go_wp2
      go_ret
      have e1 := HLAY.out.sum
      have e2 := HEMP.out
      have e3 : E = [] := List.length_eq_zero_iff.1 (by omega)
      have e4 : D = [] := List.length_eq_zero_iff.1 (by omega)
      rw [e3, e4, wsum_nil, wsum_nil] at e1
      have e5 : size = total := by omega
      refine ⟨by rw [e5]; rfl, ?_⟩
      exact HBV.out.trans ((HKEEP.out.trans (HBA2.out.mono HKEEP.out.size)).mono (by omega))
    have hd : decide (E.length + D.length = 0) = false := decide_eq_false hemp
    rw [hd] at HISE
    have HEMP := hide hemp
    clear hemp hd
    go_wp2_with fail
    refine HISE.out.mono ?_
    rintro e wA ⟨rfl, hbA⟩
    have hzA := hbA.size
    obtain ⟨V1, rest0, hrange, hgo, hbR, hsR⟩ := (HM1.out.keep (hbA.block m1 lm1)).range Try.underlying94
    have q0 : wA.cell? ⟨bl, 0, none⟩ = some (.map (some m1)) := by
      have h8 := cell_of ((hbA.block bl hlbl).trans HBL.out) 0
      simpa using h8
    have HBA2 := hide hbA
    have HGO := hide hgo
    have HBR := hide hbR
    clear hbA hgo hbR z0 z1
    go_wp2
    clear q0 hrange
    go_loopw [3] (fun v ws => ∃ done rest, v = .int .i64 ((size + wsum (fun _ => 1) done : Nat) : Int) ∧ Goes ws wA.heap.size m1 E done rest ∧ Keeps (fun k => k < V1.heap.size ∧ k ≠ wA.heap.size) V1 ws) (fun _ ws => restLen ws wA.heap.size m1)
    case atStart => exact ⟨[], rest0, by rw [wsum_nil]; rfl, HGO.out, Keeps.refl _ _⟩
    case round =>
      obtain ⟨done, rest, rfl, hgo, hkp⟩ := hrel
      have hleft := hgo.left
      have hzk := hkp.size
      rcases hgo.next (P := Try.prog) with ⟨hr0, hnx⟩ | ⟨p, rest', u1, hper, hnx, hgo1, hbu, hsz, hen⟩
      · subst hr0
        have hperm := hgo.perm
        rw [List.append_nil] at hperm
        have hws : wsum (fun _ => 1) done = wsum (fun _ => 1) E := wsum_perm hperm _
        rw [hws]
        have hq : ∀ b, b < wA.heap.size → wr.heap[b]? = wA.heap[b]? := fun b hb => (hkp.block b ⟨by omega, by omega⟩).trans (HBR.out.block b hb)
        have hq3 := fun b hb => (hq b (Nat.lt_of_lt_of_le hb hzA)).trans (HBA2.out.block b hb)
        have hoz := HKEEP.out.size
        have hqV := fun b (hb : b < V.heap.size) => (hq3 b (Nat.lt_of_lt_of_le hb hoz)).trans (HKEEP.out.block b hb)
        have hY := (hq3 w1.heap.size hlb4).trans HB4.out
        have hZ := (hq3 bl hlbl).trans HBL.out
        have y0 := cell_of hY 0
        have y1 := cell_of hY 1
        have z0 := cell_of hZ 0
        have z1 := cell_of hZ 1
        simp only [List.getElem?_toArray, List.getElem?_cons_succ, List.getElem?_cons_zero] at y0 y1 z0 z1
        have hKE : ∀ a ∈ keysOf E, B ≤ a.block ∧ a.block < w.heap.size + 1 := fun a ha => by
          obtain ⟨p, hp, rfl⟩ := List.mem_map.1 ha
          obtain ⟨⟨h', t', hA⟩, -⟩ := HLAY.out.e p hp
          exact hA.2.1
        have hKD : ∀ a ∈ keysOf D, B ≤ a.block ∧ a.block < w.heap.size + 1 := fun a ha => by
          obtain ⟨p, hp, rfl⟩ := List.mem_map.1 ha
          obtain ⟨⟨h', t', hA⟩, -⟩ := HLAY.out.d p hp
          exact hA.2.1
        have hpm1 := HM1.out.keep (hq3 m1 lm1)
        have hpm2 := HM2.out.keep (hq3 m2 lm2)
        have HNOTE := hide (note_any wr (fun b => B ≤ b ∧ b < w.heap.size + 1) s1 s2 m1 m2 S1 S2 E D (HS1.out.keep (hq3 s1 ls1)) (HS2.out.keep (hq3 s2 ls2)) hpm1 hpm2 ⟨by omega, by omega, by omega, by omega, by omega⟩ (fun b hb => plain_keep (a := ⟨b, 0, none⟩) (HP.out b hb) (hqV b (by omega))) ⟨fun hb => by omega, fun hb => by omega⟩ ⟨HLAY.out.s.1, HLAY.out.s.2, hKE, hKD⟩)
        have HQV := hide hqV
        have HY := hide hY
        have HZ := hide hZ
        have HPM1 := hide hpm1
        have HPM2 := hide hpm2
        have hzw : V.heap.size ≤ wr.heap.size := by omega
        have HKP := hide hkp
        have HKV : Hid (Below V.heap.size V wr) := ⟨hkp.os.trans (HBR.out.os.trans (HBA2.out.os.trans HKEEP.out.os)), hkp.tape.trans (HBR.out.tape.trans (HBA2.out.tape.trans HKEEP.out.tape)), hkp.output.trans (HBR.out.output.trans (HBA2.out.output.trans HKEEP.out.output)), hzw, hqV⟩
        have lx1 : s1 < wr.heap.size := by omega
        have lx2 : s2 < wr.heap.size := by omega
        have lx3 : m1 < wr.heap.size := by omega
        have lx4 : m2 < wr.heap.size := by omega
        have lx5 : bl < wr.heap.size := by omega
        have lx6 : w1.heap.size < wr.heap.size := by omega
        generalize hSZ : size + wsum (fun _ => 1) E = SZ at bd1
        have HSZ := hide hSZ
        clear hgo hkp hleft hperm hws hq hq3 hqV hY hZ hKE hKD hpm1 hpm2 hSZ
        go_wp2_with fail
        refine HNOTE.out.mono ?_
        rintro e wN ⟨rfl, S1', S2', p1, p2, k1, k2, hkN⟩
        have hzN := hkN.size
        have hdeep := HLAY.out.deep k1 k2 HEMP.out
        have len1 := seen_len p1.nodup k1
        have len2 := seen_len p2.nodup k2
        have hbl1 : w1.heap.size ≠ s1 := by omega
        have hbl2 : w1.heap.size ≠ s2 := by omega
        have hY2 := (hkN.block w1.heap.size ⟨lx6, hbl1, hbl2⟩).trans HY.out
        have hble : bl ≠ s1 ∧ bl ≠ s2 := by
          refine ⟨fun e => ?_, fun e => ?_⟩
          · obtain ⟨es, c, hx, -⟩ := HS1.out
            rw [← e, HBL.out] at hx
            cases hx
          · obtain ⟨es, c, hx, -⟩ := HS2.out
            rw [← e, HBL.out] at hx
            cases hx
        have hZ2 := (hkN.block bl ⟨lx5, hble.1, hble.2⟩).trans HZ.out
        have y0' := cell_of hY2 0
        have y1' := cell_of hY2 1
        simp only [List.getElem?_toArray, List.getElem?_cons_succ, List.getElem?_cons_zero] at y0' y1'
        have HLEN := hide (len_any wN s1 s2 S1' S2' p1 p2 (by omega))
        have HP1 := hide p1
        have HP2 := hide p2
        have HK1 := hide k1
        have HK2 := hide k2
        have HKN := hide hkN
        have HY2 := hide hY2
        have HZ2 := hide hZ2
        clear p1 p2 k1 k2 hkN hY2 hZ2 y0 y1 z0 z1 hnx
        go_wp2_with fail
        refine HLEN.out.mono ?_
        rintro e wL ⟨rfl, hbL⟩
        have hzL := hbL.size
        have hZ3 := (hbL.block bl (by omega)).trans HZ2.out
        have z0 := cell_of hZ3 0
        have z1 := cell_of hZ3 1
        simp only [List.getElem?_toArray, List.getElem?_cons_succ, List.getElem?_cons_zero] at z0 z1
        have hdp : ¬ ((k : Int) + 1 > ((S1'.length : Int) + (S2'.length : Int))) := by omega
        generalize hV5 : wL.alloc (.cells #[.map (some m1), .map (some m2)] 97) = V5
        have hb5 : Below wL.heap.size wL V5 := by rw [← hV5]; exact (Below.refl _ wL).alloc (Nat.le_refl _) _
        have hs5 : V5.heap.size = wL.heap.size + 1 := by rw [← hV5]; simp
        have hc5 : V5.heap[wL.heap.size]? = some (.cells #[.map (some m1), .map (some m2)] 97 (0, 0)) := by rw [← hV5]; exact heap_alloc_new wL _
        have hqL : ∀ b, b < wr.heap.size → b ≠ s1 → b ≠ s2 → V5.heap[b]? = wr.heap[b]? := fun b hb e1 e2 => (hb5.block b (by omega)).trans ((hbL.block b (by omega)).trans (HKN.out.block b ⟨hb, e1, e2⟩))
        have HBEL := hide (below_any V V5 (fun b => B ≤ b ∧ b < w.heap.size + 1) m1 m2 E D (HPM1.out.keep (hqL m1 lx3 (by omega) (by omega))) (HPM2.out.keep (hqL m2 lx4 (by omega) (by omega))) (by omega) (fun b hb => (hqL b (by omega) (by omega) (by omega)).trans (HQV.out b (by omega))) (fun b hb => plain_keep (a := ⟨b, 0, none⟩) (HP.out b hb) ((hqL b (by omega) (by omega) (by omega)).trans (HQV.out b (by omega)))) (fun p hp => (HLAY.out.e p hp).1) (fun p hp => (HLAY.out.d p hp).1) (by omega) (by omega))
        have HB5 := hide hb5
        have HC5 := hide hc5
        have HBLL := hide hbL
        have v0 := cell_of hc5 0
        have v1 := cell_of hc5 1
        simp only [List.getElem?_toArray, List.getElem?_cons_succ, List.getElem?_cons_zero] at v0 v1
        clear hbL hZ3 hb5 hc5 hqL
        go_wp2_with fail
        refine HBEL.out.mono ?_
        rintro e wB ⟨n1, n2, E', D', rfl, q1, q2, hbB, hn1, hn2, pE, pD⟩
        rw [hs5] at hbB hn1
        have hzB := hbB.size
        have hcB := (hbB.block wL.heap.size (by omega)).trans HC5.out
        have x0 := cell_of hcB 0
        have x1 := cell_of hcB 1
        simp only [List.getElem?_toArray, List.getElem?_cons_succ, List.getElem?_cons_zero] at x0 x1
        have f0 := frozen_of hcB 0
        have f1 := frozen_of hcB 1
        have lq1 := q1.lt
        have lq2 := q2.lt
        have hr3 := heap_set_same (j := 1) (.map (some n2)) (heap_set_same (j := 0) (.map (some n1)) hcB)
        have hoth : ∀ b, b ≠ wL.heap.size → ((wB.setCell ⟨wL.heap.size, 0, none⟩ (.map (some n1))).setCell ⟨wL.heap.size, 1, none⟩ (.map (some n2))).heap[b]? = wB.heap[b]? := fun b hb => by rw [heap_set_other _ hb, heap_set_other _ hb]
        obtain ⟨hlay2, hless⟩ := HLAY.out.below HCN.out HK1.out HK2.out pE pD q1.nodup q2.nodup
        rw [HSZ.out] at hlay2
        have hMM := HM.out
        have hEMP := HEMP.out
        have HNEW : Hid (SizeAt V (fun b => B ≤ b ∧ b < w.heap.size + 1) cE cD total s1 s2 w1.heap.size ((wB.setCell ⟨wL.heap.size, 0, none⟩ (.map (some n1))).setCell ⟨wL.heap.size, 1, none⟩ (.map (some n2))) (.int .i64 (SZ : Int)) (.int .i64 ((k : Int) + 1)) (.pointer (some ⟨wL.heap.size, 0, none⟩)) (wsum (mm cE cD true) E' + wsum (mm cE cD false) D')) := by
          refine ⟨⟨SZ, k + 1, wL.heap.size, n1, n2, E', D', S1', S2', rfl, rfl, rfl, hr3, ?_, q1.keep (hoth n1 (by omega)), q2.keep (hoth n2 (by omega)), HP1.out.keep ?_, HP2.out.keep ?_, by omega, by omega, by omega, by omega, by omega, by omega, by omega, by omega, by omega, by omega, hlay2, rfl, by omega, ?_⟩, ?_⟩
          · rw [hoth _ (by omega)]
            exact (hbB.block _ (by omega)).trans ((HB5.out.block _ (by omega)).trans ((HBLL.out.block _ (by omega)).trans HY2.out))
          · rw [hoth _ (by omega)]
            exact (hbB.block _ (by omega)).trans ((HB5.out.block _ (by omega)).trans (HBLL.out.block _ (by omega)))
          · rw [hoth _ (by omega)]
            exact (hbB.block _ (by omega)).trans ((HB5.out.block _ (by omega)).trans (HBLL.out.block _ (by omega)))
          · rw [Nat.mul_add, Nat.mul_one]
            omega
          · have e1 : Below V.heap.size V wN := HKV.out.trans ⟨HKN.out.os, HKN.out.tape, HKN.out.output, HKN.out.size, fun b hb => HKN.out.block b ⟨by omega, by omega, by omega⟩⟩
            have e2 : Below V.heap.size V wB := e1.trans ((HBLL.out.mono (by omega)).trans ((HB5.out.mono (by omega)).trans (hbB.mono (by omega))))
            exact (e2.setCell (by show V.heap.size ≤ wL.heap.size; omega) _).setCell (by show V.heap.size ≤ wL.heap.size; omega) _
        have HLESS : Hid (wsum (mm cE cD true) E' + wsum (mm cE cD false) D' < m) := by
          show _ < m
          omega
        clear q1 q2 hbB pE pD hcB hr3 hoth hlay2 hless hMM hEMP v0 v1 z0 z1
        go_wp2
        go_roundw
        case rel => exact ⟨_, HNEW.out⟩
        case measure =>
          have e1 := (HMU.out _ (_, _, _, _) HNEW.out).2
          have e2 := HLESS.out
          rw [← HMM.out] at e2
          exact Nat.lt_of_le_of_lt e1 e2
      · have hbnd : size + wsum (fun _ => 1) done + p.2 ≤ 4611686018427387904 := by
          have e1 := wsum_perm hgo1.perm (fun _ => 1)
          rw [wsum_app, wsum_app, wsum_one] at e1
          omega
        have HPL := hide (plus_any u1 (size + wsum (fun _ => 1) done) p.2 hbnd)
        have HLEFT : Hid (rest'.length < restLen wr wA.heap.size m1) := by
          have h7 := hper.length_eq
          rw [List.length_cons] at h7
          show rest'.length < restLen wr wA.heap.size m1
          rw [hleft]
          omega
        have HGO1 := hide hgo1
        have HU : Hid (Keeps (fun k => k < V1.heap.size ∧ k ≠ wA.heap.size) V1 u1) := hkp.trans ⟨hbu.os, hbu.tape, hbu.output, hbu.size, fun k hk => hbu.block k ⟨by omega, hk.2⟩⟩
        generalize hX : size + wsum (fun _ => 1) done = X at HPL hbnd
        have HX := hide hX
        clear hgo hkp hleft hper hgo1 hbu hX
        go_wp2_with fail
        refine HPL.out.mono ?_
        rintro e' w5 ⟨rfl, rfl⟩
        go_wp2
        go_roundw
        case rel =>
          refine ⟨done ++ [p], rest', ?_, HGO1.out, HU.out⟩
          rw [wsum_app, wsum_one, ← Nat.add_assoc, HX.out, Nat.mul_one]
          first | rfl | (simp only [Int.natCast_add])
        case measure =>
          rw [HGO1.out.left]
          exact HLEFT.out
end Go.Proofs.Ytegcebeaelpjhaj
