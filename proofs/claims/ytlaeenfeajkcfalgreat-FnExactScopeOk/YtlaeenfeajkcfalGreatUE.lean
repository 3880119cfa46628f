/- The program's knowAll. -/
import Derived.Test.YtlaeenfeajkcfalGreatSM
namespace Go.Proofs.YtlaeenfeajkcfalGreat.Fr
open Go.ChangeShapes Go.WideShapes Go.ChangeAt Go.RowKit Go.Proofs.YtlaeenfeajkcfalGreat.Nm Go.Proofs.YtlaeenfeajkcfalGreat.Kn
set_option linter.unusedVariables false

/-- All great names in it are known, so many parts deep. -/
def knN (L : List Mk) : Nat → Bool → Tr → Prop
  | 0, _, _ => True
  | n + 1, b, t => (b = true → knB L t = true) ∧ ∀ b' c B, Part b t b' c B → knN L n b' c
def KnT (L : List Mk) (b : Bool) (t : Tr) : Prop := ∀ n, knN L n b t
theorem kn_part {L : List Mk} {b b' : Bool} {t c : Tr} {B : List ByteArray} (hp : Part b t b' c B) (h : KnT L b t) : KnT L b' c := fun n => (h (n + 1)).2 b' c B hp
theorem kn_own {L : List Mk} {t : Tr} (h : KnT L true t) : knB L t = true := (h 1).1 rfl
theorem kn_all {L : List Mk} {w : World} {K : Nat → Prop} {ks : List (Bool × Addr)} {G : Log} (hN : NetF w K ks G) (ho : ∀ k ∈ ks, k.1 = true → ∀ h t, AtP w K k h t → knB L t = true) : ∀ n k h t, k ∈ ks → AtP w K k h t → knN L n k.1 t := by
  intro n
  induction n with
  | zero => exact fun _ _ _ _ _ => trivial
  | succ n ih =>
    intro k h t hk hat
    refine ⟨fun hb => ho k hk hb h t hat, fun b' c B hp => ?_⟩
    obtain ⟨i, hi⟩ := List.mem_iff_getElem?.1 hk
    obtain ⟨g, hg, e1, e2, ki, h', e3, e4, e5⟩ := hN.whole i k h t hi hat b' c B hp
    rw [← e4]
    exact ih ki h' c (List.mem_of_getElem? e3) e5
set_option maxHeartbeats 2000000 in
set_option maxRecDepth 100000 in
theorem knowAll_any {K : Nat → Prop} {w : World} {h m : Nat} {L : List Mk} (hm : MkMap w m L) (xs : List Tr) (o : Option Addr) (c : Nat) (hx : RowOf K w (reads K w h).de 9 o xs) (hp : ∀ b, K b → b < w.heap.size ∧ PlainAt w ⟨b, 0, none⟩) (hT : (xs.map (wgt h).de).sum ≤ 5000000) (hl : xs.length ≤ 5000000) (f : Bool) (hf : f = true ↔ ∀ d ∈ xs, KnT L false d) :
    Calls Tryz.prog 20 #[.map (some m), .slice o xs.length c] w fun e w' => e = .returned (.bool f) ∧ Below w.heap.size w w' := by
  have HM := hide hm
  have HF := hide hf
  have HNET := hide (netOfDecs_any xs o c hx hp hT hl (Q := fun b t => (∀ d ∈ xs, KnT L false d) → KnT L b t) (fun b t b' c B hpt hq ha => kn_part hpt (hq ha)) (fun d hd ha => ha d hd))
  clear hm hf hx hp
  go_enter Tryz.func20, Tryz.ntmps20
  go_wp2_with fail
  refine Calls.mono HNET.out ?_
  rintro e w1 ⟨n, rfl, ⟨ks, G, hN, hNF, hroots, -, hq⟩, hb1⟩
  have HN := hide hN
  have HNF := hide hNF
  have HROOT := hide hroots
  have HQ := hide hq
  have HB1 := hide hb1
  have HM1 := hide (HM.out.later hb1)
  obtain ⟨oz, cz, zw⟩ := hN.len0
  have HZ := hide zw
  have hkl : ks.length ≤ 5000000 := hNF.few.1
  clear hN hNF hroots hq hb1
  go_wp2
  clear zw
  go_loopw [13] (fun t13 wr => ∃ i : Nat, i ≤ ks.length ∧ t13 = .int .i64 i ∧ (∀ k ∈ ks.take i, k.1 = true → ∀ h t, AtP w1 K k h t → knB L t = true) ∧ Below w1.heap.size w1 wr) (fun t13 _ => ks.length - (intOf t13).toNat)
  case atStart => exact ⟨0, Nat.zero_le _, rfl, fun k hk => by simp at hk, Below.refl _ _⟩
  case round =>
    obtain ⟨i, hi, rfl, hpre, hb⟩ := hrel
    have HPRE := hide hpre
    have HB := hide hb
    clear hpre
    by_cases hlt : i < ks.length
    · obtain ⟨k, hki⟩ : ∃ k, ks[i]? = some k := ⟨ks[i], List.getElem?_eq_getElem hlt⟩
      have hkm := List.mem_of_getElem? hki
      obtain ⟨ht, t, hat, -⟩ := HNF.out.at_ k hkm
      obtain ⟨g, c0, ov, nv, cv, y, hlc, z0, z1, z2, z3⟩ := HN.out.place hki
      have ez := HZ.out
      rw [y] at ez
      simp only [Option.some.injEq, Value.slice.injEq, true_and] at ez
      obtain ⟨rfl, rfl⟩ := ez
      obtain ⟨kb, a⟩ := k
      have hgl : g < w1.heap.size := World.block_lt_of_cell? w1 _ z0
      have m0 := (hb.cell (p := ⟨g, i * 4, none⟩) hgl).trans z0
      have m1 := (hb.cell (p := ⟨g, i * 4 + 1, none⟩) hgl).trans z1
      have m2 := (hb.cell (p := ⟨g, i * 4 + 2, none⟩) hgl).trans z2
      have m3 := (hb.cell (p := ⟨g, i * 4 + 3, none⟩) hgl).trans z3
      have HAT := hide hat
      have HKI := hide hki
      have hlt2 : (i : Int) < ks.length := by omega
      cases kb
      · simp only [Bool.false_eq_true, if_false] at m0 m1
        have HBX : Hid (Below w1.heap.size w1 (wr.alloc (.cells #[.pointer none, .pointer (some a), .slice ov nv cv, .int .i64 0] 100))) := hb.alloc hb.size _
        clear hb hat hki hkm z0 z1 z2 z3 y
        go_wp2
        go_roundw
        case rel =>
          refine ⟨i + 1, by omega, by go_num, fun k hk hk1 => ?_, HBX.out⟩
          rw [List.take_add_one, HKI.out] at hk
          rcases List.mem_append.1 hk with hk | hk
          · exact HPRE.out k hk hk1
          · have e : k = (false, a) := by simpa using hk
            rw [e] at hk1
            cases hk1
        case measure => simp [intOf]; omega
      · simp only [if_true] at m0 m1
        obtain ⟨X, hX⟩ : ∃ X, wr.alloc (.cells #[.pointer (some a), .pointer none, .slice ov nv cv, .int .i64 0] 100) = X := ⟨_, rfl⟩
        have hbX : Below w1.heap.size w1 X := by rw [← hX]; exact hb.alloc hb.size _
        have hboxX : X.heap[wr.heap.size]? = some (.cells #[.pointer (some a), .pointer none, .slice ov nv cv, .int .i64 0] 100 (0, 0)) := by rw [← hX]; exact heap_alloc_new wr _
        have y0 := cell_of hboxX 0
        simp only [List.getElem?_toArray, List.getElem?_cons_zero] at y0
        have HX := hide hX
        clear hX
        obtain ⟨hsp, hKa, cs, hca, hcl, hrd⟩ := hat.later hbX
        simp only [if_true] at hcl hrd
        cases ht with
        | zero => exact hrd.elim
        | succ ht =>
          have HKO := hide (knowOwn_any (HM1.out.later hbX) hsp hca hrd)
          have HBX := hide hbX
          clear hb hki hkm z0 z1 z2 z3 y hat hca hrd hbX hboxX hcl hsp hKa
          cases hkb : knB L t
          · have HNO : Hid (f = false) := bool_false HF.out fun hall => by
              obtain ⟨h1, t1, hat1, hq1⟩ := HQ.out (true, a) (List.mem_of_getElem? HKI.out)
              have e := at_fun HAT.out hat1
              subst e
              have := kn_own (hq1 hall)
              rw [hkb] at this
              cases this
            rw [hkb] at HKO
            go_upto_region 4 with fail
            rw [HX.out]
            go_wp2_with fail
            refine Calls.mono HKO.out ?_
            rintro e w4 ⟨rfl, hb4⟩
            have HB4 := hide (HB1.out.trans ((HBX.out.trans (hb4.mono HBX.out.size)).mono HB1.out.size))
            clear hb4
            go_wp2
            go_ret
            exact ⟨ret_b HNO.out.symm, HB4.out⟩
          · rw [hkb] at HKO
            have HKB := hide hkb
            go_upto_region 4 with fail
            rw [HX.out]
            go_wp2_with fail
            refine Calls.mono HKO.out ?_
            rintro e w4 ⟨rfl, hb4⟩
            have HB4 := hide (HBX.out.trans (hb4.mono HBX.out.size))
            clear hb4
            go_wp2
            go_roundw
            case rel =>
              refine ⟨i + 1, by omega, by go_num, fun k hk hk1 h' t' hat' => ?_, HB4.out⟩
              rw [List.take_add_one, HKI.out] at hk
              rcases List.mem_append.1 hk with hk | hk
              · exact HPRE.out k hk hk1 h' t' hat'
              · have e : k = (true, a) := by simpa using hk
                rw [e] at hat'
                have e2 := at_fun hat' HAT.out
                rw [e2]
                exact HKB.out
            case measure => simp [intOf]; omega
    · have HYES : Hid (f = true) := HF.out.2 fun d hd n => by
        obtain ⟨k, hk, hk1, h', hat'⟩ := HROOT.out d hd
        have h9 := kn_all HNF.out (fun k hk hk1 h t hat => HPRE.out k (by rw [List.take_of_length_le (by omega)]; exact hk) hk1 h t hat) n k h' d hk hat'
        rw [hk1] at h9
        exact h9
      clear hb
      go_wp2
      go_ret
      exact ⟨ret_b HYES.out.symm, HB1.out.trans (HB.out.mono HB1.out.size)⟩
end Go.Proofs.YtlaeenfeajkcfalGreat.Fr
