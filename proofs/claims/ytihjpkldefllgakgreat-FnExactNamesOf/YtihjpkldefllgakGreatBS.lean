/- The program's bound, BoundOf. -/
import Derived.Test.YtihjpkldefllgakGreatBR
namespace Go.Proofs.YtihjpkldefllgakGreat.Nm
open Go.ChangeShapes Go.WideShapes Go.ChangeAt Go.RowKit

theorem smap_kept {w w' : World} {m nn : Nat} {S : ByteArray → Prop} (h : SMap w m nn S) (hb : Below w.heap.size w w') : SMap w' m nn S := h.keep (hb.block m h.lt)
theorem AtP.later {w w' : World} {K : Nat → Prop} {k : Bool × Addr} {h : Nat} {t : Tr} (hat : AtP w K k h t) (hb : Below w.heap.size w w') : AtP w' K k h t := by
  obtain ⟨h1, h2, cs, h3, h4, h5⟩ := hat
  refine ⟨h1, h2, cs, fun j u hu => (hb.cell (p := ⟨k.2.block, _, none⟩) (World.block_lt_of_cell? w _ (h3 j u hu))).trans (h3 j u hu), h4, ?_⟩
  cases hk : k.1
  · rw [hk] at h5
    exact (reads_later hb h).2.1 _ _ h5
  · rw [hk] at h5
    exact (reads_later hb h).1 _ _ h5
set_option maxHeartbeats 4000000 in
set_option maxRecDepth 100000 in
theorem bound_any {w : World} {n : Nat} {R : ByteArray → Prop} (hN : NetOf R w n) : Calls Tryz.prog 22 #[.pointer (some ⟨n, 0, none⟩)] w fun e w' => ∃ m nn, e = .returned (.map (some m)) ∧ SMap w' m nn R ∧ w.heap.size ≤ m ∧ Below w.heap.size w w' ∧ nn ≤ 50000010000000 := by
  obtain ⟨K, KP, KS, ks, L, hN, hat, hR, hkl, hbd⟩ := hN
  have hmm := @run_makeMap Tryz.prog
  obtain ⟨V, hV⟩ : ∃ V, w.alloc (.map #[] 0) = V := ⟨_, rfl⟩
  have hb0 : Below w.heap.size w V := by rw [← hV]; exact (Below.refl _ w).alloc (Nat.le_refl _) _
  have HM0 : Hid (SMap V w.heap.size 0 fun _ => False) := by rw [← hV]; exact SMap.new w
  have HB0 := hide hb0
  have HN := hide hN
  have HAT := hide hat
  have HR := hide hR
  have HBD := hide hbd
  obtain ⟨oz, cz, zw⟩ := hN.len0
  have z := (hb0.cell (p := ⟨n, 0, none⟩) hN.lt).trans zw
  have HZ := hide zw
  have hnl := hN.lt
  have hsV : V.heap.size = w.heap.size + 1 := by rw [← hV]; simp
  clear hN hat hR hbd hb0 zw
  go_enter Tryz.func22, Tryz.ntmps22
  go_wp2
  clear hmm
  go_loopw [14] (fun t14 wr => ∃ (i nn : Nat), i ≤ ks.length ∧ t14 = .int .i64 i ∧ SMap wr w.heap.size nn (fun y => ∃ k ∈ ks.take i, ∃ h t, AtP w K k h t ∧ ownK k.1 t y) ∧ nn ≤ i * 10000002 ∧ Below w.heap.size w wr) (fun t14 _ => ks.length - (intOf t14).toNat)
  case atStart =>
    refine ⟨0, 0, Nat.zero_le _, rfl, ?_, by omega, HB0.out⟩
    have h9 := HM0.out
    have e9 : (fun y : ByteArray => ∃ k ∈ ks.take 0, ∃ h t, AtP w K k h t ∧ ownK k.1 t y) = fun _ => False := by
      funext y
      simp
    rw [e9]
    exact h9
  case round =>
    obtain ⟨i, nn, hi, rfl, hm, hnn, hb⟩ := hrel
    have HM := hide hm
    have HB := hide hb
    by_cases hlt : i < ks.length
    · obtain ⟨k, hki⟩ : ∃ k, ks[i]? = some k := ⟨ks[i], List.getElem?_eq_getElem hlt⟩
      have hkm := List.mem_of_getElem? hki
      obtain ⟨h, t, hat⟩ := HAT.out k hkm
      obtain ⟨hs1, hs2, hs3⟩ := HBD.out k hkm h t hat
      obtain ⟨g, c, ov, nv, cv, y, hlc, z0, z1, z2, z3⟩ := HN.out.place hki
      have ez := HZ.out
      rw [y] at ez
      simp only [Option.some.injEq, Value.slice.injEq, true_and] at ez
      obtain ⟨rfl, rfl⟩ := ez
      obtain ⟨kb, a⟩ := k
      have hgl : g < w.heap.size := World.block_lt_of_cell? w _ z0
      have m0 := (hb.cell (p := ⟨g, i * 4, none⟩) hgl).trans z0
      have m1 := (hb.cell (p := ⟨g, i * 4 + 1, none⟩) hgl).trans z1
      have m2 := (hb.cell (p := ⟨g, i * 4 + 2, none⟩) hgl).trans z2
      have m3 := (hb.cell (p := ⟨g, i * 4 + 3, none⟩) hgl).trans z3
      obtain ⟨P0, P1, hP0, hP1⟩ : ∃ P0 P1 : Option Addr, P0 = (if (kb, a).1 then some (kb, a).2 else none) ∧ P1 = (if (kb, a).1 then none else some (kb, a).2) := ⟨_, _, rfl, rfl⟩
      rw [← hP0] at m0
      rw [← hP1] at m1
      have hbb : Below wr.heap.size wr (wr.alloc (.cells #[.pointer P0, .pointer P1, .slice ov nv cv, .int .i64 0] 94)) := (Below.refl _ wr).alloc (Nat.le_refl _) _
      have hbW : Below w.heap.size w (wr.alloc (.cells #[.pointer P0, .pointer P1, .slice ov nv cv, .int .i64 0] 94)) := hb.trans (hbb.mono hb.size)
      have HCALL : Hid (Calls Tryz.prog 39 #[.agg #[.pointer P0, .pointer P1, .slice ov nv cv, .int .i64 0]] (wr.alloc (.cells #[.pointer P0, .pointer P1, .slice ov nv cv, .int .i64 0] 94)) (BatP kb t (wr.alloc (.cells #[.pointer P0, .pointer P1, .slice ov nv cv, .int .i64 0] 94)))) := by
        cases kb
        · subst hP0 hP1
          exact boundAt_dec (hat.later hbW) hs1 ov nv cv
        · subst hP0 hP1
          exact boundAt_exp (hat.later hbW) hs2 hs3 ov nv cv
      have HKI := hide hki
      have HA := hide hat
      have HBW := hide hbW
      have HMW := hide (smap_kept hm hbb)
      have hwz := hb.size
      clear hm hb hat hki hkm hs1 hs2 hs3 z0 z1 z2 z3 y hP0 hP1 hbb hbW
      go_wp2_with fail
      refine Calls.mono HCALL.out ?_
      rintro e w2 ⟨v, l, rfl, hn2, hown, hl2, hb2⟩
      obtain ⟨o2, c2, rfl, hf2, hr2⟩ := hn2.rowOf
      have HR2 := hide hr2
      have HOWN := hide hown
      have HM2 := hide (smap_kept HMW.out hb2)
      have HBW2 := hide (HBW.out.trans (hb2.mono HBW.out.size))
      have hz2 := hb2.size
      have hz1 : (wr.alloc (.cells #[.pointer P0, .pointer P1, .slice ov nv cv, .int .i64 0] 94)).heap.size = wr.heap.size + 1 := by simp
      have hml := HM.out.lt
      clear hn2 hown hf2 hr2 hb2 m0 m1 m2 m3
      go_wp2
      generalize wr = wa at *
      go_loopw [21] (fun t21 wq => ∃ (j n2 : Nat), j ≤ l.length ∧ t21 = .int .i64 j ∧ SMap wq w.heap.size n2 (fun y => (∃ k ∈ ks.take i, ∃ h t, AtP w K k h t ∧ ownK k.1 t y) ∨ y ∈ l.take j) ∧ n2 ≤ nn + j ∧ Keeps (fun b => b < w2.heap.size ∧ b ≠ w.heap.size) w2 wq) (fun t21 _ => l.length - (intOf t21).toNat)
      case atStart =>
        refine ⟨0, nn, Nat.zero_le _, rfl, ?_, by omega, Keeps.refl _ _⟩
        have h9 := HM2.out
        have e9 : (fun y : ByteArray => (∃ k ∈ ks.take i, ∃ h t, AtP w K k h t ∧ ownK k.1 t y) ∨ y ∈ l.take 0) = fun y => ∃ k ∈ ks.take i, ∃ h t, AtP w K k h t ∧ ownK k.1 t y := by
          funext y
          simp
        rw [e9]
        exact h9
      case round =>
        obtain ⟨j, n2, hj, rfl, hmj, hn2, hkj⟩ := hrel
        have HMJ := hide hmj
        have HKJ := hide hkj
        by_cases hjl : j < l.length
        · have hne : l ≠ [] := by intro e; rw [e] at hjl; simp at hjl
          obtain ⟨b, off, eo, ⟨hbB, -⟩, hbl, hcs⟩ := HR2.out hne
          subst eo
          obtain ⟨_, -, hkey, rfl, hsz⟩ := hcs j _ (List.getElem?_eq_getElem hjl)
          have q0 := hkey 0 _ rfl
          rw [Nat.mul_one, Nat.add_zero] at q0
          have q1 := (World.cell?_of_block (a := ⟨b, off + j, none⟩) (hkj.block b ⟨hbl, by omega⟩)).trans q0
          obtain ⟨s, hs⟩ : ∃ s, l[j] = s := ⟨_, rfl⟩
          rw [hs] at q1 hsz
          obtain ⟨cc, w3, hlook, hcc, hup, hm3, hg3⟩ := hmj.inc hsz (by omega)
          have HM3 := hide hm3
          have HS := hide hs
          have HK3 : Hid (Keeps (fun b => b < w2.heap.size ∧ b ≠ w.heap.size) w2 w3) := hkj.trans ⟨hg3.os, hg3.tape, hg3.output, hg3.size, fun b hb => hg3.block b (Nat.lt_of_lt_of_le hb.1 hkj.size) (fun e => hb.2 (Option.some.inj e))⟩
          have hc1 : (cc : Int) + 1 ≤ 9223372036854775807 := by omega
          clear hmj hkj hcs hkey hne hm3 hg3 q0 hs hbB hbl
          go_wp2
          go_roundw
          case rel =>
            refine ⟨j + 1, n2 + 1, by omega, by go_num, ?_, by omega, HK3.out⟩
            have h9 := HM3.out
            have e9 : (fun y : ByteArray => ((∃ k ∈ ks.take i, ∃ h t, AtP w K k h t ∧ ownK k.1 t y) ∨ y ∈ l.take j) ∨ y = s) = fun y => (∃ k ∈ ks.take i, ∃ h t, AtP w K k h t ∧ ownK k.1 t y) ∨ y ∈ l.take (j + 1) := by
              funext y
              rw [List.take_succ_eq_append_getElem hjl, List.mem_append, List.mem_singleton, HS.out, or_assoc]
            rw [e9] at h9
            exact h9
          case measure => simp [intOf]; omega
        · have hje : j = l.length := by omega
          subst hje
          clear hmj hkj
          go_wp2
          go_roundw
          case rel =>
            refine ⟨i + 1, n2, by omega, by go_num, ?_, by omega, ?_⟩
            · have h9 := HMJ.out
              have e9 : (fun y : ByteArray => (∃ k ∈ ks.take i, ∃ h t, AtP w K k h t ∧ ownK k.1 t y) ∨ y ∈ l.take l.length) = fun y => ∃ k ∈ ks.take (i + 1), ∃ h t, AtP w K k h t ∧ ownK k.1 t y := by
                funext y
                have hk : ks[i] = (kb, a) := by
                  have := List.getElem?_eq_getElem hlt
                  rw [HKI.out] at this
                  exact (Option.some.inj this).symm
                have hiff : (∃ h t, AtP w K (kb, a) h t ∧ ownK kb t y) ↔ ownK kb t y := by
                  constructor
                  · rintro ⟨h', t', hat', ho⟩
                    have e := at_fun hat' HA.out
                    subst e
                    exact ho
                  · exact fun ho => ⟨h, t, HA.out, ho⟩
                have hmt := mem_take_succ (fun k : Bool × Addr => ∃ h t, AtP w K k h t ∧ ownK k.1 t y) ks i hlt
                rw [List.take_length, HOWN.out]
                apply propext
                rw [hmt, hk]
                exact or_congr Iff.rfl hiff.symm
              rw [e9] at h9
              exact h9
            · exact ⟨HKJ.out.os.trans HBW2.out.os, HKJ.out.tape.trans HBW2.out.tape, HKJ.out.output.trans HBW2.out.output, Nat.le_trans HBW2.out.size HKJ.out.size, fun b hb => (HKJ.out.block b ⟨by have := HBW2.out.size; omega, by omega⟩).trans (HBW2.out.block b hb)⟩
          case measure => simp [intOf]; omega
    · have hie : i = ks.length := by omega
      subst hie
      clear hm hb
      go_wp2
      go_ret
      refine ⟨_, nn, rfl, ?_, Nat.le_refl _, HB.out, by omega⟩
      have h9 := HM.out
      have e9 : (fun y : ByteArray => ∃ k ∈ ks.take ks.length, ∃ h t, AtP w K k h t ∧ ownK k.1 t y) = R := by
        funext y
        rw [List.take_length]
        exact propext (HR.out y).symm
      rw [e9] at h9
      exact h9
end Go.Proofs.YtihjpkldefllgakGreat.Nm
