/- The program's namesKnown. -/
import Derived.Test.YtlaeenfeajkcfalGreatSH
import Derived.Test.YtlaeenfeajkcfalGreatSJ
namespace Go.Proofs.YtlaeenfeajkcfalGreat.Fr
open Go.ChangeShapes Go.WideShapes Go.ChangeAt Go.RowKit Go.Proofs.YtlaeenfeajkcfalGreat.Nm
set_option linter.unusedVariables false

theorem alike_has (l : List ByteArray) (s : ByteArray) : alikeB l s = hasS l s := rfl
theorem bool_false {f : Bool} {P : Prop} (hf : f = true ↔ P) (h : ¬ P) : f = false := by
  cases hb : f with
  | false => rfl
  | true => exact absurd (hf.1 hb) h
set_option maxHeartbeats 2000000 in
set_option maxRecDepth 100000 in
theorem namesKnown_any {K : Nat → Prop} {w : World} {h : Nat} (xs : List Tr) (o : Option Addr) (c : Nat) (hx : RowOf K w (reads K w h).de 9 o xs) (hp : ∀ b, K b → b < w.heap.size ∧ PlainAt w ⟨b, 0, none⟩) (hT : ∀ d ∈ xs, (wgt h).de d ≤ 5000000) (hl : xs.length ≤ 5000000) (f : Bool) (hf : f = true ↔ ∀ d ∈ xs, ∀ y, FreT false d y → y ∈ xs.map Tr.s) :
    Calls Tryz.prog 18 #[.slice o xs.length c] w fun e w' => e = .returned (.bool f) ∧ Below w.heap.size w w' := by
  have HX := hide hx
  have HP := hide hp
  have HT := hide hT
  have HF := hide hf
  have HNM := hide (namesOfDecsS_any xs o c w hx (by omega))
  clear hx hp hT hf
  go_enter Tryz.func18, Tryz.ntmps18
  go_wp2_with fail
  refine Calls.mono HNM.out ?_
  rintro e w1 ⟨vk, rfl, hkn, hb1⟩
  obtain ⟨ok, ck, rfl, hkc, hkr⟩ := hkn.rowOf
  have HKR := hide hkr
  have HB1 := hide hb1
  have hkl : (xs.map Tr.s).length ≤ maxLen := hkn.2.2
  clear hkn hkr hb1
  go_wp2
  go_loopw [12] (fun t wr => ∃ i : Nat, i ≤ xs.length ∧ t = .int .i64 i ∧ (∀ d ∈ xs.take i, ∀ y, FreT false d y → y ∈ xs.map Tr.s) ∧ Below w1.heap.size w1 wr) (fun t _ => xs.length - (intOf t).toNat)
  case atStart => exact ⟨0, Nat.zero_le _, rfl, fun d hd => by simp at hd, Below.refl _ _⟩
  case round =>
    obtain ⟨i, hi, rfl, hall, hb⟩ := hrel
    have HALL := hide hall
    have HB := hide hb
    clear hall
    by_cases hlt : i < xs.length
    · have hne : xs ≠ [] := by intro e; rw [e] at hlt; simp at hlt
      obtain ⟨d, hxd⟩ : ∃ d, xs[i]? = some d := ⟨xs[i], List.getElem?_eq_getElem hlt⟩
      have hbw : Below w.heap.size w wr := HB1.out.trans (hb.mono HB1.out.size)
      obtain ⟨b, off, eo, kb, hblt, hcs⟩ := HX.out hne
      subst eo
      obtain ⟨cs, hcl, hkey, hr⟩ := hcs i d hxd
      obtain ⟨y, p0, e0, p1, e1, p2, e2, p3, e3, p4, e4, rfl⟩ := de_form hr
      have p : ∀ j u, [.string d.s, .slice p0 d.ss.length e0, .int .i64 y.k, .string y.s, .int .i64 y.n, .slice p1 y.l.length e1, .slice p2 y.ds.length e2, .slice p3 y.al.length e3, .slice p4 d.ds.length e4][j]? = some u → wr.cell? ⟨b, off + i * 9 + j, none⟩ = some u := fun j u hu => (hbw.cell (p := ⟨b, _, none⟩) hblt).trans (hkey j u hu)
      have q0 := p 0 _ rfl
      have q1 := p 1 _ rfl
      have q2 := p 2 _ rfl
      have q3 := p 3 _ rfl
      have q4 := p 4 _ rfl
      have q5 := p 5 _ rfl
      have q6 := p 6 _ rfl
      have q7 := p 7 _ rfl
      have q8 := p 8 _ rfl
      rw [Nat.add_zero] at q0
      obtain ⟨X, hX⟩ : ∃ X, wr.alloc (.cells #[.string d.s, .slice p0 d.ss.length e0, .int .i64 y.k, .string y.s, .int .i64 y.n, .slice p1 y.l.length e1, .slice p2 y.ds.length e2, .slice p3 y.al.length e3, .slice p4 d.ds.length e4] 77) = X := ⟨_, rfl⟩
      have hbX : Below wr.heap.size wr X := by rw [← hX]; exact (Below.refl _ wr).alloc (Nat.le_refl _) _
      have hboxX : X.heap[wr.heap.size]? = some (.cells #[.string d.s, .slice p0 d.ss.length e0, .int .i64 y.k, .string y.s, .int .i64 y.n, .slice p1 y.l.length e1, .slice p2 y.ds.length e2, .slice p3 y.al.length e3, .slice p4 d.ds.length e4] 77 (0, 0)) := by rw [← hX]; exact heap_alloc_new wr _
      have hbwX : Below w.heap.size w X := hbw.trans (hbX.mono hbw.size)
      have HFD := hide (freeOfDec_any (w := X) (h := h) (d := d) (cs := [.string d.s, .slice p0 d.ss.length e0, .int .i64 y.k, .string y.s, .int .i64 y.n, .slice p1 y.l.length e1, .slice p2 y.ds.length e2, .slice p3 y.al.length e3, .slice p4 d.ds.length e4]) ((reads_later hbwX h).2.1 _ _ hr) rfl (fun q hq => by
        obtain ⟨h1, cc, ee, h2⟩ := HP.out q hq
        exact ⟨Nat.lt_of_lt_of_le h1 hbwX.size, cc, ee, (hbwX.block q h1).trans h2⟩) (HT.out d (List.mem_of_getElem? hxd)))
      have HBX := hide (HB.out.trans (hbX.mono HB.out.size))
      have HXD := hide hxd
      have hlt2 : (i : Int) < xs.length := by omega
      have hC := fun j => cell_of hboxX j
      have z0 := hC 0
      have z1 := hC 1
      have z2 := hC 2
      have z3 := hC 3
      have z4 := hC 4
      have z5 := hC 5
      have z6 := hC 6
      have z7 := hC 7
      have z8 := hC 8
      simp only [List.getElem?_toArray, List.getElem?_cons_succ, List.getElem?_cons_zero] at z0 z1 z2 z3 z4 z5 z6 z7 z8
      clear hcs hne hkey hcl hr p hb hbw hbX hbwX hxd hC hboxX
      go_wp2_with fail
      refine Calls.mono HFD.out ?_
      rintro e w3 ⟨v3, l, rfl, hn3, -, hm3, hb3⟩
      obtain ⟨o3, c3, rfl, hfit, hr3⟩ := hn3.rowOf
      have HR3 := hide hr3
      have HM3 := hide hm3
      have HB3 := hide (HBX.out.trans (hb3.mono HBX.out.size))
      have hll : l.length ≤ 9223372036854775807 := hfit.1
      clear hn3 hm3 hb3 hr3 z0 z1 z2 z3 z4 z5 z6 z7 z8 q0 q1 q2 q3 q4 q5 q6 q7 q8 hX hfit
      have HCT := hide fun s => contains_any (xs.map Tr.s) xs.length (List.length_map _) ok ck s w3 hkl (HKR.out.later HB3.out fun _ _ h => h)
      go_wp2
      go_loop [19] (fun t => ∃ j : Nat, j ≤ l.length ∧ t = .int .i64 j ∧ ∀ s ∈ l.take j, s ∈ xs.map Tr.s) (fun t => l.length - (intOf t).toNat)
      case atStart => exact ⟨0, Nat.zero_le _, rfl, fun s hs => by simp at hs⟩
      case round =>
        obtain ⟨j, hj, rfl, hpre⟩ := hrel
        have HPRE := hide hpre
        clear hpre
        by_cases hjl : j < l.length
        · obtain ⟨s, hs⟩ : ∃ s, l[j]? = some s := ⟨l[j], List.getElem?_eq_getElem hjl⟩
          have hnl : l ≠ [] := by intro e; rw [e] at hjl; simp at hjl
          obtain ⟨b3, off3, eo3, -, hb3l, hcs3⟩ := HR3.out hnl
          subst eo3
          obtain ⟨_, -, hkey3, rfl, -⟩ := hcs3 j s hs
          have r0 := hkey3 0 _ rfl
          rw [Nat.mul_one, Nat.add_zero] at r0
          have HS := hide hs
          have hjl2 : (j : Int) < l.length := by omega
          have hsm : s ∈ l := List.mem_of_getElem? hs
          have HSM := hide hsm
          clear hcs3 hkey3 hnl hs hsm
          cases ha : alikeB (xs.map Tr.s) s
          · have HN : Hid (f = false) := bool_false HF.out fun hall => by
              have h1 := hall d (List.mem_of_getElem? HXD.out) s ((HM3.out s).1 HSM.out)
              rw [alike_has, hasS_mem.2 h1] at ha
              cases ha
            go_wp2_with fail
            refine Calls.mono (HCT.out s) ?_
            rintro e w4 ⟨rfl, rfl⟩
            rw [ha]
            go_wp2
            go_ret
            exact ⟨ret_b HN.out.symm, HB1.out.trans (HB3.out.mono HB1.out.size)⟩
          · have HIN : Hid (s ∈ xs.map Tr.s) := hasS_mem.1 (by rw [← alike_has]; exact ha)
            go_wp2_with fail
            refine Calls.mono (HCT.out s) ?_
            rintro e w4 ⟨rfl, rfl⟩
            rw [ha]
            go_wp2
            go_round
            case rel =>
              refine ⟨j + 1, by omega, by go_num, fun z hz => ?_⟩
              rw [List.take_add_one, HS.out] at hz
              rcases List.mem_append.1 hz with hz | hz
              · exact HPRE.out z hz
              · have e : z = s := by simpa using hz
                rw [e]
                exact HIN.out
            case measure => simp [intOf]; omega
        · go_wp2
          go_roundw
          case rel =>
            refine ⟨i + 1, by omega, by go_num, fun z hz yy hy => ?_, HB3.out⟩
            rw [List.take_add_one, HXD.out] at hz
            rcases List.mem_append.1 hz with hz | hz
            · exact HALL.out z hz yy hy
            · have e : z = d := by simpa using hz
              rw [e] at hy
              exact HPRE.out yy (by rw [List.take_of_length_le (by omega)]; exact (HM3.out yy).2 hy)
          case measure => simp [intOf]; omega
    · have HN : Hid (f = true) := HF.out.2 fun d hd y hy => HALL.out d (by rw [List.take_of_length_le (by omega)]; exact hd) y hy
      clear hb
      go_wp2
      go_ret
      exact ⟨ret_b HN.out.symm, HB1.out.trans (HB.out.mono HB1.out.size)⟩
end Go.Proofs.YtlaeenfeajkcfalGreat.Fr
