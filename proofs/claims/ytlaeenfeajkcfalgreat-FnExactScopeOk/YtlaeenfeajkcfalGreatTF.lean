/- The model's l7Type. -/
import Derived.Test.YtlaeenfeajkcfalGreatTE
import Derived.Test.YtlaeenfeajkcfalGreatUH
namespace Go.Proofs.YtlaeenfeajkcfalGreat.Fr
open Go.ChangeShapes Go.WideShapes Go.ChangeAt Go.RowKit Go.Proofs.YtlaeenfeajkcfalGreat.Nm Go.Proofs.YtlaeenfeajkcfalGreat.Kn
set_option linter.unusedVariables false

theorem l7_all : ∀ h, ∀ h', h' ≤ h → L7Ex h' ∧ L7Ds h' := by
  intro h
  induction h with
  | zero =>
    intro h' hh
    have e : h' = 0 := by omega
    subst e
    exact ⟨fun _ _ _ _ _ _ _ _ _ hr => hr.elim, l7Ds_of fun k hk => by omega⟩
  | succ h ih =>
    intro h' hh
    by_cases e : h' ≤ h
    · exact ih h' e
    · have e : h' = h + 1 := by omega
      subst e
      have i1 := ih h (Nat.le_refl _)
      refine ⟨l7Ex_of i1.1 i1.2 fun g eg => (ih g (by omega)).1, l7Ds_of fun k hk => ?_⟩
      obtain rfl : h = k := by omega
      exact i1
theorem l7Decs_any (h : Nat) : L7Ds h := (l7_all h h (Nat.le_refl _)).2

def tmZ (N : List ByteArray) : Nat → Tr → Bool
  | 0, _ => false
  | h + 1, t => if t.k = 1 ∨ t.k = 2 then true else if t.k = 4 then decide (t.l.length = 2) && t.l.all (tmZ N h) else if t.k = 3 then alikeB N t.s else false
theorem tm_tk {N : List ByteArray} : ∀ h t d, tyB h t d = true → tmZ N h t = tkZ N h t := by
  intro h
  induction h with
  | zero => intro t d h9; rfl
  | succ h ih =>
    intro t d h9
    simp only [tyB, Bool.and_eq_true] at h9
    obtain ⟨h1, h2⟩ := h9
    simp only [tyHere, Bool.and_eq_true] at h1
    obtain ⟨-, -, h1⟩ := h1
    simp only [tmZ, tkZ]
    have hall : t.l.all (tmZ N h) = t.l.all (tkZ N h) := by
      have h3 : ∀ c ∈ t.l, tmZ N h c = tkZ N h c := fun c hc => by
        have h4 : tyB h c (d + 1) = true := by
          have h5 := h2
          unfold allZ at h5
          simp only [List.all_eq_true] at h5
          exact h5 c hc
        exact ih c _ h4
      clear h1 h2
      generalize t.l = l at h3
      induction l with
      | nil => rfl
      | cons q r ihr =>
        rw [List.all_cons, List.all_cons, h3 q (by simp), ihr fun c hc => h3 c (by simp [hc])]
    by_cases hk : t.k = 1 ∨ t.k = 2
    · rw [if_pos hk, Bool.and_eq_true, decide_eq_true_eq] at h1
      rw [if_pos hk]
      have hl : t.l = [] := List.length_eq_zero_iff.1 h1.2
      have h3 : (t.k == 3) = false := by rcases hk with e | e <;> rw [e] <;> rfl
      rw [hl, h3]
      rfl
    · rw [if_neg hk] at h1
      rw [if_neg hk]
      by_cases hk3 : t.k = 3
      · have hk4 : ¬ t.k = 4 := by omega
        rw [if_pos hk3, Bool.and_eq_true, decide_eq_true_eq] at h1
        rw [if_neg hk4, if_pos hk3]
        have hl : t.l = [] := List.length_eq_zero_iff.1 h1.2
        have h3 : (t.k == 3) = true := by rw [hk3]; rfl
        rw [hl, h3]
        simp
      · rw [if_neg hk3] at h1
        by_cases hk4 : t.k = 4
        · rw [if_pos hk4, Bool.and_eq_true, decide_eq_true_eq] at h1
          rw [if_pos hk4, hall, h1.2]
          have h3 : (t.k == 3) = false := by rw [hk4]; rfl
          rw [h3]
          rfl
        · rw [if_neg hk4] at h1
          cases h1
set_option maxHeartbeats 2000000 in
set_option maxRecDepth 100000 in
theorem l7Type_of (h : Nat) : ∀ (K K' : Nat → Prop) (g : Nat) (p : Tr) (cp : List Value) (t : Tr) (cs : List Value) (w : World), prR K' w g p cp → tyR K w h t cs →
    Calls Tryz.prog 14 #[.agg cp.toArray, .agg cs.toArray] w fun e w' => e = .returned (.bool (tmZ (p.l.map Tr.s) h t)) ∧ Below w.heap.size w w' := by
  induction h with
  | zero => exact fun _ _ _ _ _ _ _ _ _ hr => hr.elim
  | succ h ih =>
    intro K K' g p cp t cs w hp hr
    have hp0 := hp
    obtain ⟨-, -, -, -, -, u1, d1, u2, d2, rfl, pl1, pl2, pr1, -⟩ := hp
    obtain ⟨-, -, -, o, c, rfl, hs, hf, r1⟩ := hr
    obtain ⟨X, hX⟩ : ∃ X, (w.alloc (.cells #[.slice u1 p.l.length d1, .slice u2 p.ds.length d2] 31)).alloc (.cells #[.int .i64 t.k, .string t.s, .int .i64 t.n, .slice o t.l.length c] 48) = X := ⟨_, rfl⟩
    have hbX : Below w.heap.size w X := by rw [← hX]; exact ((Below.refl _ w).alloc (Nat.le_refl _) _).alloc (by simp) _
    have hbox1 : X.heap[w.heap.size]? = some (.cells #[.slice u1 p.l.length d1, .slice u2 p.ds.length d2] 31 (0, 0)) := by rw [← hX]; exact (heap_alloc_old _ _ (by simp)).trans (heap_alloc_new w _)
    have hbox : X.heap[w.heap.size + 1]? = some (.cells #[.int .i64 t.k, .string t.s, .int .i64 t.n, .slice o t.l.length c] 48 (0, 0)) := by
      have h9 := heap_alloc_new (w.alloc (.cells #[.slice u1 p.l.length d1, .slice u2 p.ds.length d2] 31)) (.cells #[.int .i64 t.k, .string t.s, .int .i64 t.n, .slice o t.l.length c] 48)
      rw [hX] at h9
      simpa using h9
    have HBX := hide hbX
    have HP : Hid (∀ W, Below w.heap.size w W → prR K' W g p [.slice u1 p.l.length d1, .slice u2 p.ds.length d2]) := fun W hW => prR_later hW g _ _ hp0
    have HPR := hide (pr1.later hbX (daR_later hbX g))
    have HR1 : Hid (∀ W, Below w.heap.size w W → RowOf K W (tyR K W h) 4 o t.l) := fun W hW => r1.later hW fun _ _ hh => tyR_later hW h _ _ hh
    have z0 := cell_of hbox 0
    have z1 := cell_of hbox 1
    have z3 := cell_of hbox 3
    have y0 := cell_of hbox1 0
    have y1 := cell_of hbox1 1
    simp only [List.getElem?_toArray, List.getElem?_cons_succ, List.getElem?_cons_zero] at z0 z1 z3 y0 y1
    have hl2 : p.l.length ≤ 9223372036854775807 := pl1.1
    have hl3 : t.l.length ≤ 9223372036854775807 := hf.1
    have IH := hide ih
    have HT : Hid (tmZ (p.l.map Tr.s) (h + 1) t = if t.k = 1 ∨ t.k = 2 then true else if t.k = 4 then decide (t.l.length = 2) && t.l.all (tmZ (p.l.map Tr.s) h) else if t.k = 3 then alikeB (p.l.map Tr.s) t.s else false) := rfl
    obtain ⟨T, hT⟩ : ∃ T, tmZ (p.l.map Tr.s) (h + 1) t = T := ⟨_, rfl⟩
    rw [hT] at HT ⊢
    clear hT ih hp0 pr1 r1 hbX hbox hbox1 pl1 pl2 hf hs
    obtain ⟨k, hk⟩ : ∃ k, t.k = k := ⟨_, rfl⟩
    rw [hk] at HT hX z0 ⊢
    clear hk
    by_cases h1 : k = 1
    · subst h1
      have HT1 : Hid (T = true) := by rw [HT.out]; rfl
      go_enter Tryz.func14, Tryz.ntmps14
      go_wp2
      go_ret
      exact ⟨by rw [HT1.out]; rfl, HBX.out⟩
    by_cases h2 : k = 2
    · subst h2
      have HT1 : Hid (T = true) := by rw [HT.out]; rfl
      go_enter Tryz.func14, Tryz.ntmps14
      go_wp2
      go_ret
      exact ⟨by rw [HT1.out]; rfl, HBX.out⟩
    have hb1 : (k == 1) = false := by simpa using h1
    have hb2 : (k == 2) = false := by simpa using h2
    by_cases h4 : k = 4
    · subst h4
      have hne0 : Nonempty (Later X) := later_nonempty X
      have s0 := lat_cell y0
      have s1 := lat_cell y1
      have s3 := lat_cell z3
      by_cases hlen : t.l.length = 2
      · obtain ⟨A, B, hab⟩ : ∃ A B, t.l = [A, B] := by
          match hl : t.l, hlen with
          | [A, B], _ => exact ⟨A, B, rfl⟩
        obtain ⟨b, off, eo, -, hblt, hcs⟩ := (HR1.out X HBX.out) (by rw [hab]; simp)
        subst eo
        obtain ⟨ca, hca, hka, hra⟩ := hcs 0 A (by rw [hab]; rfl)
        obtain ⟨cb, hcb, hkb, hrb⟩ := hcs 1 B (by rw [hab]; rfl)
        have HTT : Hid (T = (tmZ (p.l.map Tr.s) h A && tmZ (p.l.map Tr.s) h B)) := by
          show T = (tmZ (p.l.map Tr.s) h A && tmZ (p.l.map Tr.s) h B)
          rw [HT.out, hlen, hab]
          simp
        obtain ⟨a0, a1, a2, a3, rfl⟩ := four_of hca
        obtain ⟨b0, b1, b2, b3, rfl⟩ := four_of hcb
        have ka0 := lat_cell (hka 0 _ rfl)
        have ka1 := lat_cell (hka 1 _ rfl)
        have ka2 := lat_cell (hka 2 _ rfl)
        have ka3 := lat_cell (hka 3 _ rfl)
        have kb0 := lat_cell (hkb 0 _ rfl)
        have kb1 := lat_cell (hkb 1 _ rfl)
        have kb2 := lat_cell (hkb 2 _ rfl)
        have kb3 := lat_cell (hkb 3 _ rfl)
        simp only [Nat.zero_mul, Nat.one_mul, Nat.add_zero] at ka0 ka1 ka2 ka3 kb0 kb1 kb2 kb3
        have C1 : Hid (∀ q : Later X, Calls Tryz.prog 14 #[.agg #[.slice u1 p.l.length d1, .slice u2 p.ds.length d2], .agg #[a0, a1, a2, a3]] q.w fun e w' => e = .returned (.bool (tmZ (p.l.map Tr.s) h A)) ∧ Below q.w.heap.size q.w w') := fun q => IH.out K K' g p _ A _ q.w (HP.out _ (HBX.out.trans (q.h.mono HBX.out.size))) (tyR_later q.h h _ _ hra)
        have C2 : Hid (∀ q : Later X, Calls Tryz.prog 14 #[.agg #[.slice u1 p.l.length d1, .slice u2 p.ds.length d2], .agg #[b0, b1, b2, b3]] q.w fun e w' => e = .returned (.bool (tmZ (p.l.map Tr.s) h B)) ∧ Below q.w.heap.size q.w w') := fun q => IH.out K K' g p _ B _ q.w (HP.out _ (HBX.out.trans (q.h.mono HBX.out.size))) (tyR_later q.h h _ _ hrb)
        obtain ⟨tA, hA⟩ : ∃ tA, tmZ (p.l.map Tr.s) h A = tA := ⟨_, rfl⟩
        obtain ⟨tB, hB⟩ : ∃ tB, tmZ (p.l.map Tr.s) h B = tB := ⟨_, rfl⟩
        rw [hA] at C1 HTT
        rw [hB] at C2 HTT
        rw [hlen] at hX z3 s3 hl3 ⊢
        clear hab hcs hblt hca hcb hka hkb hra hrb hA hB hlen
        cases tA <;> cases tB
        all_goals
          go_enter Tryz.func14, Tryz.ntmps14
          go_upto_region 6 with fail
          clear hX z0 z1 z3 y0 y1
          refine wp_region_class (S := fun v => Below X.heap.size X v) (by kernel_rfl) (by kernel_rfl) (below_drew _) ?_
          repeat (first | go_big_quiet_skip | (go_big_quiet_want; go_big_quiet_op; first | go_big_quiet_on | (apply Exists.intro; refine ⟨fun q => ?_, ?_⟩; (go_at_call 14; first | ((with_reducible refine Calls.mono (C1.out q) ?_); rintro e w9 ⟨rfl, hb9⟩; exact ⟨rfl, Later.on q hb9, rfl⟩) | ((with_reducible refine Calls.mono (C2.out q) ?_); rintro e w9 ⟨rfl, hb9⟩; exact ⟨rfl, Later.on q hb9, rfl⟩)); go_big_quiet_on)))
          refine wpQuiet_nil ?_
          intro _ hw'
          obtain ⟨q, rfl⟩ := hw'
          go_wp2
          go_ret
          exact ⟨by rw [HTT.out]; rfl, HBX.out.trans (q.h.mono HBX.out.size)⟩
      · have HTT : Hid (T = false) := by
          rw [HT.out, decide_eq_false hlen]
          rfl
        have hlen2 : ¬ ((t.l.length : Int) = 2) := by omega
        have hlen3 : ((t.l.length : Int) == 2) = false := by simpa using hlen2
        go_enter Tryz.func14, Tryz.ntmps14
        go_upto_region 6 with fail
        clear hX z0 z1 z3 y0 y1
        refine wp_region_class (S := fun v => Below X.heap.size X v) (by kernel_rfl) (by kernel_rfl) (below_drew _) ?_
        repeat (first | go_big_quiet_skip | (go_big_quiet_want; go_big_quiet_op; go_big_quiet_on))
        refine wpQuiet_nil ?_
        intro _ hw'
        obtain ⟨q, rfl⟩ := hw'
        go_wp2
        go_ret
        exact ⟨by rw [HTT.out]; rfl, HBX.out.trans (q.h.mono HBX.out.size)⟩
    have hb4 : (k == 4) = false := by simpa using h4
    by_cases h3 : k = 3
    · subst h3
      have HTT : Hid (T = alikeB (p.l.map Tr.s) t.s) := by rw [HT.out]; rfl
      clear HT
      go_enter Tryz.func14, Tryz.ntmps14
      go_wp2
      clear hX
      have HBr := hide (Below.refl X.heap.size X)
      have hbl0 : w.heap.size < X.heap.size := World.block_lt_of_cell? X _ y0
      have hbl1 : w.heap.size + 1 < X.heap.size := World.block_lt_of_cell? X _ z1
      go_loopw [5] (fun t5 wr => ∃ i : Nat, i ≤ p.l.length ∧ t5 = .int .i64 i ∧ alikeB ((p.l.take i).map Tr.s) t.s = false ∧ Below X.heap.size X wr) (fun t5 _ => p.l.length - (intOf t5).toNat)
      case atStart => exact ⟨0, Nat.zero_le _, rfl, rfl, HBr.out⟩
      case round =>
        obtain ⟨i, hi, rfl, hfi, hb⟩ := hrel
        have HFI := hide hfi
        have HB := hide hb
        clear hfi
        have v0 := (hb.cell (p := ⟨w.heap.size, 0, none⟩) hbl0).trans y0
        have v1 := (hb.cell (p := ⟨w.heap.size + 1, 1, none⟩) hbl1).trans z1
        have HBW := hide (HBX.out.trans (hb.mono HBX.out.size))
        by_cases hlt : i < p.l.length
        · have hne : p.l ≠ [] := by intro e; rw [e] at hlt; simp at hlt
          obtain ⟨d, hx⟩ : ∃ d, p.l[i]? = some d := ⟨p.l[i], List.getElem?_eq_getElem hlt⟩
          obtain ⟨b, off, eo, -, hbl, hcs⟩ := HPR.out hne
          subst eo
          obtain ⟨cs, hlen, hkey, hrd⟩ := hcs i d hx
          obtain ⟨-, -, -, -, -, od, cd, rfl, -, hfd, hrd⟩ := hrd
          have q0 := (hb.cell (p := ⟨b, off + i * 2 + 0, none⟩) hbl).trans (hkey 0 _ rfl)
          rw [Nat.add_zero] at q0
          have HX := hide hx
          have hlt2 : (i : Int) < p.l.length := by omega
          have s0 := lat_cell v0
          have s1 := lat_cell v1
          have s2 := lat_cell q0
          have hne0 : Nonempty (Later wr) := later_nonempty wr
          clear hcs hx hne hkey hlen hrd hfd hb
          cases he : (d.s.toList == t.s.toList)
          · have HNX : Hid (alikeB ((p.l.take (i + 1)).map Tr.s) t.s = false) := by
              show alikeB ((p.l.take (i + 1)).map Tr.s) t.s = false
              rw [List.take_add_one, HX.out, List.map_append]
              unfold alikeB
              rw [List.any_append]
              have h9 := HFI.out
              unfold alikeB at h9
              rw [h9]
              simp [he]
            have he2 : ¬ (d.s.toList = t.s.toList) := by simpa using he
            go_upto_region 11 with fail
            clear v0 v1 q0 y0 y1 z0 z1 z3
            refine wp_region_class (S := fun v => Below wr.heap.size wr v) (by kernel_rfl) (by kernel_rfl) (below_drew _) ?_
            repeat (first | go_big_quiet_skip | (go_big_quiet_want; go_big_quiet_op; go_big_quiet_on))
            refine wpQuiet_nil ?_
            intro _ hw'
            obtain ⟨q, rfl⟩ := hw'
            go_wp2
            go_roundw
            case rel => exact ⟨i + 1, by omega, by go_num, HNX.out, HB.out.trans (q.h.mono HB.out.size)⟩
            case measure => simp [intOf]; omega
          · have HNX : Hid (alikeB (p.l.map Tr.s) t.s = true) := by
              show alikeB (p.l.map Tr.s) t.s = true
              unfold alikeB
              rw [List.any_eq_true]
              exact ⟨d.s, List.mem_map.2 ⟨d, List.mem_of_getElem? HX.out, rfl⟩, he⟩
            have he2 : d.s.toList = t.s.toList := by simpa using he
            go_upto_region 11 with fail
            clear v0 v1 q0 y0 y1 z0 z1 z3
            refine wp_region_class (S := fun v => Below wr.heap.size wr v) (by kernel_rfl) (by kernel_rfl) (below_drew _) ?_
            repeat (first | go_big_quiet_skip | (go_big_quiet_want; go_big_quiet_op; go_big_quiet_on))
            refine wpQuiet_nil ?_
            intro _ hw'
            obtain ⟨q, rfl⟩ := hw'
            go_wp2
            go_ret
            exact ⟨by rw [HTT.out, HNX.out]; rfl, HBW.out.trans (q.h.mono HBW.out.size)⟩
        · have hie : i = p.l.length := by omega
          subst hie
          have h9 := HFI.out
          rw [List.take_length] at h9
          have HZ := hide h9
          clear h9 hb
          go_wp2
          go_ret
          exact ⟨by rw [HTT.out, HZ.out]; rfl, HBW.out⟩
    · have hb3 : (k == 3) = false := by simpa using h3
      have HTT : Hid (T = false) := by
        show T = false
        rw [HT.out]
        simp only [h1, h2, h3, h4, or_self, if_false]
      go_enter Tryz.func14, Tryz.ntmps14
      go_wp2
      go_ret
      exact ⟨by rw [HTT.out]; rfl, HBX.out⟩
end Go.Proofs.YtlaeenfeajkcfalGreat.Fr
