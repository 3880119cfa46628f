/- The program's asked. -/
import Derived.Test.YtihjpkldefllgakGreatCP
import Derived.Test.YtihjpkldefllgakGreatBS
import Derived.Test.YtihjpkldefllgakGreatBH
namespace Go.Proofs.YtihjpkldefllgakGreat.Nm
open Go.ChangeShapes Go.WideShapes Go.ChangeAt Go.RowKit

def askK (b : Bool) (t : Tr) (y : ByteArray) : Prop := b = true ∧ t.k = 1 ∧ y = t.s
set_option maxHeartbeats 4000000 in
set_option maxRecDepth 100000 in
theorem asked_any {K KP KS : Nat → Prop} {w : World} {n L : Nat} {ks : List (Bool × Addr)} (hN : Net KP KS w n ks L) (hat : ∀ k ∈ ks, ∃ h t, AtP w K k h t) (hkl : ks.length ≤ 5000000) (hsz : ∀ k ∈ ks, ∀ h t, AtP w K k h t → t.s.size ≤ maxLen) :
    Calls Tryz.prog 23 #[.pointer (some ⟨n, 0, none⟩)] w fun e w' => ∃ m nn, e = .returned (.map (some m)) ∧ SlMap w.heap.size w' m nn (fun y => ∃ k ∈ ks, ∃ h t, AtP w K k h t ∧ askK k.1 t y) nn ∧ nn ≤ 5000000 ∧ Below w.heap.size w w' ∧ w.heap.size ≤ m := by
  have hmm := @run_makeMap Tryz.prog
  obtain ⟨V, hV⟩ : ∃ V, w.alloc (.map #[] 0) = V := ⟨_, rfl⟩
  have hb0 : Below w.heap.size w V := by rw [← hV]; exact (Below.refl _ w).alloc (Nat.le_refl _) _
  have HM0 : Hid (SlMap w.heap.size V w.heap.size 0 (fun _ => False) 0) := by rw [← hV]; exact SlMap.new w
  have HB0 := hide hb0
  have HN := hide hN
  have HAT := hide hat
  have HSZ := hide hsz
  obtain ⟨oz, cz, zw⟩ := hN.len0
  have z := (hb0.cell (p := ⟨n, 0, none⟩) hN.lt).trans zw
  have HZ := hide zw
  have hnl := hN.lt
  have hsV : V.heap.size = w.heap.size + 1 := by rw [← hV]; simp
  clear hN hat hsz hb0 zw
  go_enter Tryz.func23, Tryz.ntmps23
  go_wp2
  clear hmm
  go_loopw [12] (fun t12 wr => ∃ (i nn : Nat), i ≤ ks.length ∧ t12 = .int .i64 i ∧ SlMap w.heap.size wr w.heap.size nn (fun y => ∃ k ∈ ks.take i, ∃ h t, AtP w K k h t ∧ askK k.1 t y) nn ∧ nn ≤ i ∧ Below w.heap.size w wr) (fun t12 _ => ks.length - (intOf t12).toNat)
  case atStart =>
    refine ⟨0, 0, Nat.zero_le _, rfl, ?_, Nat.le_refl _, HB0.out⟩
    have h9 := HM0.out
    have e9 : (fun y : ByteArray => ∃ k ∈ ks.take 0, ∃ h t, AtP w K k h t ∧ askK k.1 t y) = fun _ => False := by
      funext y
      simp
    rw [e9]
    exact h9
  case round =>
    obtain ⟨i, nn, hi, rfl, hm, hnn, hb⟩ := hrel
    have HM := hide hm
    have HB := hide hb
    by_cases hlt : i < ks.length
    · obtain ⟨k, hki⟩ : ∃ k, ks[i]? = some k := ⟨ks[i], List.getElem?_eq_getElem hlt⟩
      have hkm := List.mem_of_getElem? hki
      obtain ⟨h, t, hat⟩ := HAT.out k hkm
      have hs1 := HSZ.out k hkm h t hat
      obtain ⟨g, c, ov, nv, cv, y, hlc, z0, z1, z2, z3⟩ := HN.out.place hki
      have ez := HZ.out
      rw [y] at ez
      simp only [Option.some.injEq, Value.slice.injEq, true_and] at ez
      obtain ⟨rfl, rfl⟩ := ez
      obtain ⟨kb, a⟩ := k
      have hgl : g < w.heap.size := World.block_lt_of_cell? w _ z0
      have m0 := (hb.cell (p := ⟨g, i * 4, none⟩) hgl).trans z0
      have m1 := (hb.cell (p := ⟨g, i * 4 + 1, none⟩) hgl).trans z1
      have m2 := (hb.cell (p := ⟨g, i * 4 + 2, none⟩) hgl).trans z2
      have m3 := (hb.cell (p := ⟨g, i * 4 + 3, none⟩) hgl).trans z3
      have hk9 : ks[i] = (kb, a) := by
        have := List.getElem?_eq_getElem hlt
        rw [hki] at this
        exact (Option.some.inj this).symm
      have HSTEP : Hid (∀ y, (∃ k ∈ ks.take (i + 1), ∃ h t, AtP w K k h t ∧ askK k.1 t y) ↔ (∃ k ∈ ks.take i, ∃ h t, AtP w K k h t ∧ askK k.1 t y) ∨ askK kb t y) := fun y => by
        have hiff : (∃ h t, AtP w K (kb, a) h t ∧ askK kb t y) ↔ askK kb t y := by
          constructor
          · rintro ⟨h', t', hat', ho⟩
            have e := at_fun hat' hat
            subst e
            exact ho
          · exact fun ho => ⟨h, t, hat, ho⟩
        have hmt := mem_take_succ (fun k : Bool × Addr => ∃ h t, AtP w K k h t ∧ askK k.1 t y) ks i hlt
        rw [hmt, hk9]
        exact or_congr Iff.rfl hiff
      cases kb
      · simp only [Bool.false_eq_true, if_false] at m0 m1
        have hbb : Below wr.heap.size wr (wr.alloc (.cells #[.pointer none, .pointer (some a), .slice ov nv cv, .int .i64 0] 94)) := (Below.refl _ wr).alloc (Nat.le_refl _) _
        have HF : Hid (SlMap w.heap.size (wr.alloc (.cells #[.pointer none, .pointer (some a), .slice ov nv cv, .int .i64 0] 94)) w.heap.size nn (fun y => ∃ k ∈ ks.take (i + 1), ∃ h t, AtP w K k h t ∧ askK k.1 t y) nn) := by
          have e9 : (fun y : ByteArray => ∃ k ∈ ks.take (i + 1), ∃ h t, AtP w K k h t ∧ askK k.1 t y) = fun y => ∃ k ∈ ks.take i, ∃ h t, AtP w K k h t ∧ askK k.1 t y := by
            funext y
            apply propext
            rw [HSTEP.out]
            simp [askK]
          show SlMap _ _ _ _ _ _
          rw [e9]
          exact hm.later hbb
        have HBF := hide (hb.trans (hbb.mono hb.size))
        clear hm hb hat hki hkm hs1 z0 z1 z2 z3 y hbb hk9
        go_wp2
        go_roundw
        case rel => exact ⟨i + 1, nn, by omega, by go_num, HF.out, by omega, HBF.out⟩
        case measure => simp [intOf]; omega
      · simp only [if_true] at m0 m1
        obtain ⟨ab, ao, asp⟩ := a
        obtain ⟨hsp, -, cs, hca, hcl, hr⟩ := hat
        simp only at hsp
        subst hsp
        cases h with
        | zero => exact hr.elim
        | succ h =>
          obtain ⟨-, o1, c1, o2, c2, o3, c3, rfl, -⟩ := hr
          have q0 : w.cell? ⟨ab, ao, none⟩ = some (.int .i64 t.k) := hca 0 _ rfl
          have q1 : w.cell? ⟨ab, ao + 1, none⟩ = some (.string t.s) := hca 1 _ rfl
          have habl : ab < w.heap.size := World.block_lt_of_cell? w _ q0
          obtain ⟨X, hX⟩ : ∃ X, wr.alloc (.cells #[.pointer (some ⟨ab, ao, none⟩), .pointer none, .slice ov nv cv, .int .i64 0] 94) = X := ⟨_, rfl⟩
          have hbb : Below wr.heap.size wr X := by rw [← hX]; exact (Below.refl _ wr).alloc (Nat.le_refl _) _
          have hbX : Below w.heap.size w X := hb.trans (hbb.mono hb.size)
          have hsX : X.heap.size = wr.heap.size + 1 := by rw [← hX]; simp
          have hbox : X.heap[wr.heap.size]? = some (.cells #[.pointer (some ⟨ab, ao, none⟩), .pointer none, .slice ov nv cv, .int .i64 0] 94 (0, 0)) := by rw [← hX]; exact heap_alloc_new wr _
          have p0 := (hbX.cell (p := ⟨ab, ao, none⟩) habl).trans q0
          have p1 := (hbX.cell (p := ⟨ab, ao + 1, none⟩) habl).trans q1
          have b0 := cell_of hbox 0
          simp only [List.getElem?_toArray, List.getElem?_cons_zero] at b0
          have HX := hide hX
          by_cases h1 : t.k = 1
          · have hk1 : (t.k == 1) = true := by simpa using h1
            obtain ⟨so, sn, sc, so', sn', sc', w4, w5, hlook, happ, hup, hm5, hb5, hb4, hkp4⟩ := (hm.later hbb.drew).step (by show w.heap.size ≤ X.heap.size; exact hbX.size) (Nat.le_refl _) hs1 (by omega) (by omega) (i : Int)
            have hb1 : Below X.heap.size X (X.alloc (.cells #[.int .i64 (i : Int)] 3)).drew := ((Below.refl _ X).alloc (Nat.le_refl _) _).drew
            have s0 := (hb1.cell (p := ⟨ab, ao + 1, none⟩) (Nat.lt_of_lt_of_le habl hbX.size)).trans p1
            have s1 := (hb1.cell (p := ⟨wr.heap.size, 0, none⟩) (by show wr.heap.size < X.heap.size; omega)).trans b0
            have r0 := (hb4.cell (p := ⟨ab, ao + 1, none⟩) habl).trans p1
            have r1 := (cell_of (hkp4 _ _ hbox fun cur e => by cases e) 0)
            simp only [List.getElem?_toArray, List.getElem?_cons_zero] at r1
            have hml : w.heap.size < X.heap.size := by have := hb.size; omega
            have k1 := hlook X.drew rfl
            have k2 := hlook (X.alloc (.cells #[.int .i64 (i : Int)] 3)).drew (hb1.block _ hml)
            have happ2 : (Builtin.append_ #[96, 96] 96 #[.slice so sn sc, .slice (some ⟨X.heap.size, 0, none⟩) 1 1]).run Tryz.prog (X.alloc (.cells #[.int .i64 (i : Int)] 3)).drew = .ok (.slice so' sn' sc') w4 := happ
            have HAPP := hide happ2
            have HF : Hid (SlMap w.heap.size w5 w.heap.size (nn + 1) (fun y => ∃ k ∈ ks.take (i + 1), ∃ h t, AtP w K k h t ∧ askK k.1 t y) (nn + 1)) := by
              have e9 : (fun y : ByteArray => ∃ k ∈ ks.take (i + 1), ∃ h t, AtP w K k h t ∧ askK k.1 t y) = fun y => (∃ k ∈ ks.take i, ∃ h t, AtP w K k h t ∧ askK k.1 t y) ∨ y = t.s := by
                funext y
                apply propext
                rw [HSTEP.out]
                simp [askK, h1]
              show SlMap _ _ _ _ _ _
              rw [e9]
              exact hm5
            have HBF := hide (hb.trans ((hbb.drew.mono hb.size).trans hb5))
            clear hm hb hki hkm hs1 z0 z1 z2 z3 y hbb hk9 hbX hbox hb1 hlook happ happ2 hb4 hkp4 hm5 hb5 q0 q1 hca hcl h1 hX
            go_upto_region 5 with fail
            rw [HX.out]
            clear HX
            go_upto_region 6 with fail
            go_region_law (refine step_append_run rfl (.tmp 40) (.tmp 42) 96 rfl (.slice so sn sc) (.slice (some ⟨X.heap.size, 0, none⟩) 1 1) (.slice so' sn' sc') w4 (by simp [Act.eval, Act.put]) (by simp [Act.eval, Act.put]) HAPP.out ?_)
            all_goals
              go_wp2
              go_roundw
              case rel => exact ⟨i + 1, nn + 1, by omega, by go_num, HF.out, by omega, HBF.out⟩
              case measure => simp [intOf]; omega
          · have hk1 : (t.k == 1) = false := by simpa using h1
            have HF : Hid (SlMap w.heap.size X w.heap.size nn (fun y => ∃ k ∈ ks.take (i + 1), ∃ h t, AtP w K k h t ∧ askK k.1 t y) nn) := by
              have e9 : (fun y : ByteArray => ∃ k ∈ ks.take (i + 1), ∃ h t, AtP w K k h t ∧ askK k.1 t y) = fun y => ∃ k ∈ ks.take i, ∃ h t, AtP w K k h t ∧ askK k.1 t y := by
                funext y
                apply propext
                rw [HSTEP.out]
                simp [askK, h1]
              show SlMap _ _ _ _ _ _
              rw [e9]
              exact hm.later hbb
            have HBF := hide hbX
            clear hm hb hki hkm hs1 z0 z1 z2 z3 y hbb hk9 hbX hbox q0 q1 hca hcl h1 hX
            go_upto_region 5 with fail
            rw [HX.out]
            clear HX
            go_wp2
            go_roundw
            case rel => exact ⟨i + 1, nn, by omega, by go_num, HF.out, by omega, HBF.out⟩
            case measure => simp [intOf]; omega
    · have hie : i = ks.length := by omega
      subst hie
      clear hm hb
      go_wp2
      go_ret
      refine ⟨_, nn, rfl, ?_, by omega, HB.out, Nat.le_refl _⟩
      have h9 := HM.out
      rw [List.take_length] at h9
      exact h9
end Go.Proofs.YtihjpkldefllgakGreat.Nm
