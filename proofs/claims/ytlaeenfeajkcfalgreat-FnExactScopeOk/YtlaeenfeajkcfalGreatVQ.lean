/- The program's asked. -/
import Derived.Test.YtlaeenfeajkcfalGreatSF
import Derived.Deep.RegionLaw
namespace Go.Proofs.YtlaeenfeajkcfalGreat.Fr
open Go.ChangeShapes Go.WideShapes Go.ChangeAt Go.RowKit Go.Proofs.YtlaeenfeajkcfalGreat.Nm
set_option linter.unusedVariables false

theorem AtP.later {w w' : World} {K : Nat → Prop} {k : Bool × Addr} {h : Nat} {t : Tr} (hat : AtP w K k h t) (hb : Below w.heap.size w w') : AtP w' K k h t := by
  obtain ⟨h1, h2, cs, h3, h4, h5⟩ := hat
  have hlt : k.2.block < w.heap.size := by
    cases cs with
    | nil => cases hk : k.1 <;> rw [hk] at h4 <;> simp at h4
    | cons u r => exact World.block_lt_of_cell? w ⟨k.2.block, k.2.off + 0, none⟩ (h3 0 u rfl)
  refine ⟨h1, h2, cs, fun j u hu => (hb.cell (p := ⟨k.2.block, _, none⟩) hlt).trans (h3 j u hu), h4, ?_⟩
  cases hk : k.1
  · rw [hk] at h5
    exact (reads_later hb h).2.1 _ _ h5
  · rw [hk] at h5
    exact (reads_later hb h).1 _ _ h5
def askK (b : Bool) (t : Tr) (y : ByteArray) : Prop := b = true ∧ t.k = 1 ∧ y = t.s
/-- For each name the places, up to one, at which it is asked for. -/
def AskedAt (w : World) (K : Nat → Prop) (ks : List (Bool × Addr)) (i : Nat) (pl : ByteArray → List Nat) : Prop := (∀ y j, j ∈ pl y ↔ j < i ∧ ∃ k h t, ks[j]? = some k ∧ AtP w K k h t ∧ askK k.1 t y) ∧ ∀ y, (pl y).length ≤ i
theorem AskedAt.skip {w : World} {K : Nat → Prop} {ks : List (Bool × Addr)} {i : Nat} {pl : ByteArray → List Nat} (h : AskedAt w K ks i pl) {k : Bool × Addr} {hh : Nat} {t : Tr} (hk : ks[i]? = some k) (hat : AtP w K k hh t) (hno : ∀ y, ¬ askK k.1 t y) : AskedAt w K ks (i + 1) pl := by
  refine ⟨fun y j => (h.1 y j).trans ⟨fun ⟨h1, h2⟩ => ⟨by omega, h2⟩, fun ⟨h1, k', h', t', e1, e2, e3⟩ => ⟨?_, k', h', t', e1, e2, e3⟩⟩, fun y => by have := h.2 y; omega⟩
  by_cases hj : j = i
  · subst hj
    rw [hk] at e1
    cases e1
    have e := at_fun e2 hat
    subst e
    exact absurd e3 (hno y)
  · omega
theorem AskedAt.put {w : World} {K : Nat → Prop} {ks : List (Bool × Addr)} {i : Nat} {pl : ByteArray → List Nat} (h : AskedAt w K ks i pl) {k : Bool × Addr} {hh : Nat} {t : Tr} (hk : ks[i]? = some k) (hat : AtP w K k hh t) (h1 : k.1 = true) (hk1 : t.k = 1) : AskedAt w K ks (i + 1) (updL pl t.s i) := by
  refine ⟨fun y j => ?_, fun y => ?_⟩
  · by_cases hy : y = t.s
    · subst hy
      rw [updL_same, List.mem_append, List.mem_singleton, h.1]
      constructor
      · rintro (⟨h2, h3⟩ | rfl)
        · exact ⟨by omega, h3⟩
        · exact ⟨by omega, k, hh, t, hk, hat, h1, hk1, rfl⟩
      · rintro ⟨h2, h3⟩
        by_cases hj : j = i
        · exact .inr hj
        · exact .inl ⟨by omega, h3⟩
    · rw [updL_other pl t.s i hy, h.1]
      constructor
      · rintro ⟨h2, h3⟩
        exact ⟨by omega, h3⟩
      · rintro ⟨h2, k', h', t', e1, e2, e3⟩
        refine ⟨?_, k', h', t', e1, e2, e3⟩
        by_cases hj : j = i
        · subst hj
          rw [hk] at e1
          cases e1
          have e := at_fun e2 hat
          subst e
          exact absurd e3.2.2 hy
        · omega
  · by_cases hy : y = t.s
    · subst hy
      rw [updL_same, List.length_append, List.length_singleton]
      have := h.2 t.s
      omega
    · rw [updL_other pl t.s i hy]
      have := h.2 y
      omega
set_option maxHeartbeats 4000000 in
set_option maxRecDepth 100000 in
theorem asked_any {K KP KS : Nat → Prop} {w : World} {n : Nat} {G : Log} {ks : List (Bool × Addr)} (hN : Net KP KS w n ks G) (hat : ∀ k ∈ ks, ∃ h t, AtP w K k h t) (hkl : ks.length ≤ 5000000) (hsz : ∀ k ∈ ks, ∀ h t, AtP w K k h t → t.s.size ≤ maxLen) :
    Calls Tryz.prog 97 #[.pointer (some ⟨n, 0, none⟩)] w fun e w' => ∃ m nn pl, e = .returned (.map (some m)) ∧ SlMap w.heap.size w' m nn pl ∧ AskedAt w K ks ks.length pl ∧ nn ≤ 5000000 ∧ Below w.heap.size w w' ∧ w.heap.size ≤ m := by
  have hmm := @run_makeMap Tryz.prog
  obtain ⟨V, hV⟩ : ∃ V, w.alloc (.map #[] 0) = V := ⟨_, rfl⟩
  have hb0 : Below w.heap.size w V := by rw [← hV]; exact (Below.refl _ w).alloc (Nat.le_refl _) _
  have HM0 : Hid (SlMap w.heap.size V w.heap.size 0 (fun _ => [])) := by rw [← hV]; exact SlMap.new w
  have HB0 := hide hb0
  have HN := hide hN
  have HAT := hide hat
  have HSZ := hide hsz
  obtain ⟨oz, cz, zw⟩ := hN.len0
  have z := (hb0.cell (p := ⟨n, 0, none⟩) hN.lt).trans zw
  have HZ := hide zw
  have hnl := hN.lt
  have hsV : V.heap.size = w.heap.size + 1 := by rw [← hV]; simp
  clear hN hat hsz hb0 zw
  go_enter Tryz.func97, Tryz.ntmps97
  go_wp2
  clear hmm
  go_loopw [12] (fun t12 wr => ∃ (i nn : Nat) (pl : ByteArray → List Nat), i ≤ ks.length ∧ t12 = .int .i64 i ∧ SlMap w.heap.size wr w.heap.size nn pl ∧ AskedAt w K ks i pl ∧ nn ≤ i ∧ Below w.heap.size w wr) (fun t12 _ => ks.length - (intOf t12).toNat)
  case atStart =>
    exact ⟨0, 0, fun _ => [], Nat.zero_le _, rfl, HM0.out, ⟨fun y j => by simp, fun y => Nat.le_refl _⟩, Nat.le_refl _, HB0.out⟩
  case round =>
    obtain ⟨i, nn, pl, hi, rfl, hm, hak, hnn, hb⟩ := hrel
    have HAK := hide hak
    clear hak
    have HM := hide hm
    have HB := hide hb
    by_cases hlt : i < ks.length
    · obtain ⟨k, hki⟩ : ∃ k, ks[i]? = some k := ⟨ks[i], List.getElem?_eq_getElem hlt⟩
      have hkm := List.mem_of_getElem? hki
      obtain ⟨h, t, hat⟩ := HAT.out k hkm
      have hs1 := HSZ.out k hkm h t hat
      obtain ⟨g, c, ov, nv, cv, y, hlc, z0, z1, z2, z3⟩ := HN.out.place hki
      have ez := HZ.out
      rw [y] at ez
      simp only [Option.some.injEq, Value.slice.injEq, true_and] at ez
      obtain ⟨rfl, rfl⟩ := ez
      obtain ⟨kb, a⟩ := k
      have hgl : g < w.heap.size := World.block_lt_of_cell? w _ z0
      have m0 := (hb.cell (p := ⟨g, i * 4, none⟩) hgl).trans z0
      have m1 := (hb.cell (p := ⟨g, i * 4 + 1, none⟩) hgl).trans z1
      have m2 := (hb.cell (p := ⟨g, i * 4 + 2, none⟩) hgl).trans z2
      have m3 := (hb.cell (p := ⟨g, i * 4 + 3, none⟩) hgl).trans z3
      have hk9 : ks[i] = (kb, a) := by
        have := List.getElem?_eq_getElem hlt
        rw [hki] at this
        exact (Option.some.inj this).symm
      have HKI := hide hki
      have HATt := hide hat
      cases kb
      · simp only [Bool.false_eq_true, if_false] at m0 m1
        have hbb : Below wr.heap.size wr (wr.alloc (.cells #[.pointer none, .pointer (some a), .slice ov nv cv, .int .i64 0] 100)) := (Below.refl _ wr).alloc (Nat.le_refl _) _
        have HF : Hid (SlMap w.heap.size (wr.alloc (.cells #[.pointer none, .pointer (some a), .slice ov nv cv, .int .i64 0] 100)) w.heap.size nn pl) := hm.later hbb
        have HA2 : Hid (AskedAt w K ks (i + 1) pl) := HAK.out.skip HKI.out HATt.out (fun y hy => by cases hy.1)
        have HBF := hide (hb.trans (hbb.mono hb.size))
        clear hm hb hat hki hkm hs1 z0 z1 z2 z3 y hbb hk9
        go_wp2
        go_roundw
        case rel => exact ⟨i + 1, nn, pl, by omega, by go_num, HF.out, HA2.out, by omega, HBF.out⟩
        case measure => simp [intOf]; omega
      · simp only [if_true] at m0 m1
        obtain ⟨ab, ao, asp⟩ := a
        obtain ⟨hsp, -, cs, hca, hcl, hr⟩ := hat
        simp only at hsp
        subst hsp
        cases h with
        | zero => exact hr.elim
        | succ h =>
          obtain ⟨-, o1, c1, o2, c2, o3, c3, rfl, -⟩ := hr
          have q0 : w.cell? ⟨ab, ao, none⟩ = some (.int .i64 t.k) := hca 0 _ rfl
          have q1 : w.cell? ⟨ab, ao + 1, none⟩ = some (.string t.s) := hca 1 _ rfl
          have habl : ab < w.heap.size := World.block_lt_of_cell? w _ q0
          obtain ⟨X, hX⟩ : ∃ X, wr.alloc (.cells #[.pointer (some ⟨ab, ao, none⟩), .pointer none, .slice ov nv cv, .int .i64 0] 100) = X := ⟨_, rfl⟩
          have hbb : Below wr.heap.size wr X := by rw [← hX]; exact (Below.refl _ wr).alloc (Nat.le_refl _) _
          have hbX : Below w.heap.size w X := hb.trans (hbb.mono hb.size)
          have hsX : X.heap.size = wr.heap.size + 1 := by rw [← hX]; simp
          have hbox : X.heap[wr.heap.size]? = some (.cells #[.pointer (some ⟨ab, ao, none⟩), .pointer none, .slice ov nv cv, .int .i64 0] 100 (0, 0)) := by rw [← hX]; exact heap_alloc_new wr _
          have p0 := (hbX.cell (p := ⟨ab, ao, none⟩) habl).trans q0
          have p1 := (hbX.cell (p := ⟨ab, ao + 1, none⟩) habl).trans q1
          have b0 := cell_of hbox 0
          simp only [List.getElem?_toArray, List.getElem?_cons_zero] at b0
          have HX := hide hX
          by_cases h1 : t.k = 1
          · have hk1 : (t.k == 1) = true := by simpa using h1
            obtain ⟨so, sn, sc, so', sn', sc', w4, w5, hlook, happ, hup, hm5, hb5, hb4, hkp4⟩ := (hm.later hbb.drew).step (by show w.heap.size ≤ X.heap.size; exact hbX.size) (Nat.le_refl _) hs1 (by omega) (by have := HAK.out.2 t.s; omega) i
            have hb1 : Below X.heap.size X (X.alloc (.cells #[.int .i64 (i : Int)] 3)).drew := ((Below.refl _ X).alloc (Nat.le_refl _) _).drew
            have s0 := (hb1.cell (p := ⟨ab, ao + 1, none⟩) (Nat.lt_of_lt_of_le habl hbX.size)).trans p1
            have s1 := (hb1.cell (p := ⟨wr.heap.size, 0, none⟩) (by show wr.heap.size < X.heap.size; omega)).trans b0
            have r0 := (hb4.cell (p := ⟨ab, ao + 1, none⟩) habl).trans p1
            have r1 := (cell_of (hkp4 _ _ hbox fun cur e => by cases e) 0)
            simp only [List.getElem?_toArray, List.getElem?_cons_zero] at r1
            have hml : w.heap.size < X.heap.size := by have := hb.size; omega
            have k1 := hlook X.drew rfl
            have k2 := hlook (X.alloc (.cells #[.int .i64 (i : Int)] 3)).drew (hb1.block _ hml)
            have happ2 : (Builtin.append_ #[151, 151] 151 #[.slice so sn sc, .slice (some ⟨X.heap.size, 0, none⟩) 1 1]).run Tryz.prog (X.alloc (.cells #[.int .i64 (i : Int)] 3)).drew = .ok (.slice so' sn' sc') w4 := happ
            have HAPP := hide happ2
            have HF : Hid (SlMap w.heap.size w5 w.heap.size (nn + 1) (updL pl t.s i)) := hm5
            have HA2 : Hid (AskedAt w K ks (i + 1) (updL pl t.s i)) := HAK.out.put HKI.out HATt.out rfl h1
            have HBF := hide (hb.trans ((hbb.drew.mono hb.size).trans hb5))
            clear hm hb hki hkm hs1 z0 z1 z2 z3 y hbb hk9 hbX hbox hb1 hlook happ happ2 hb4 hkp4 hm5 hb5 q0 q1 hca hcl h1 hX
            go_upto_region 5 with fail
            rw [HX.out]
            clear HX
            go_upto_region 6 with fail
            go_region_law (refine step_append_run rfl (.tmp 40) (.tmp 42) 151 rfl (.slice so sn sc) (.slice (some ⟨X.heap.size, 0, none⟩) 1 1) (.slice so' sn' sc') w4 (by simp [Act.eval, Act.put]) (by simp [Act.eval, Act.put]) HAPP.out ?_)
            all_goals
              go_wp2
              go_roundw
              case rel => exact ⟨i + 1, nn + 1, _, by omega, by go_num, HF.out, HA2.out, by omega, HBF.out⟩
              case measure => simp [intOf]; omega
          · have hk1 : (t.k == 1) = false := by simpa using h1
            have HF : Hid (SlMap w.heap.size X w.heap.size nn pl) := hm.later hbb
            have HA2 : Hid (AskedAt w K ks (i + 1) pl) := HAK.out.skip HKI.out HATt.out (fun y hy => h1 hy.2.1)
            have HBF := hide hbX
            clear hm hb hki hkm hs1 z0 z1 z2 z3 y hbb hk9 hbX hbox q0 q1 hca hcl h1 hX
            go_upto_region 5 with fail
            rw [HX.out]
            clear HX
            go_wp2
            go_roundw
            case rel => exact ⟨i + 1, nn, pl, by omega, by go_num, HF.out, HA2.out, by omega, HBF.out⟩
            case measure => simp [intOf]; omega
    · have hie : i = ks.length := by omega
      subst hie
      clear hm hb
      go_wp2
      go_ret
      exact ⟨_, nn, pl, rfl, HM.out, HAK.out, by omega, HB.out, Nat.le_refl _⟩
end Go.Proofs.YtlaeenfeajkcfalGreat.Fr
