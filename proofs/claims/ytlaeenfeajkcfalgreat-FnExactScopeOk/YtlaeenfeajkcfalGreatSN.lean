/- Made of UF, UG. -/
import Derived.Test.YtlaeenfeajkcfalGreatUC
import Derived.Test.YtlaeenfeajkcfalGreatSL
namespace Go.Proofs.YtlaeenfeajkcfalGreat.Fr
open Go.ChangeShapes Go.WideShapes Go.ChangeAt Go.RowKit Go.Proofs.YtlaeenfeajkcfalGreat.Nm
set_option linter.unusedVariables false

set_option maxHeartbeats 1000000 in
set_option maxRecDepth 100000 in
theorem namesOfDatas_any {K : Nat → Prop} {h : Nat} (xs : List Tr) (o : Option Addr) (c : Nat) (w : World) (hx : RowOf K w (daR K w h) 2 o xs) (hl : xs.length ≤ 10000000) :
    Calls Tryz.prog 43 #[.slice o xs.length c] w fun e w' => ∃ v, e = .returned v ∧ NRow w.heap.size w' v (xs.map Tr.s) ∧ Below w.heap.size w w' := by
  have H := hide hx
  have HB0 : Hid (Below w.heap.size w (w.alloc (.cells #[] 9))) := (Below.refl _ w).alloc (Nat.le_refl _) _
  have HN0 := hide (NRow.empty w)
  clear hx
  go_enter Tryz.func43, Tryz.ntmps43
  go_wp2
  go_loopw [3, 9] (fun t3 t9 wr => ∃ (i : Nat) (l : List ByteArray), i ≤ xs.length ∧ t9 = .int .i64 i ∧ NRow w.heap.size wr t3 l ∧ l.length = i ∧ l = (xs.take i).map Tr.s ∧ Below w.heap.size w wr) (fun _ t9 _ => xs.length - (intOf t9).toNat)
  case atStart => exact ⟨0, [], Nat.zero_le _, rfl, HN0.out, rfl, rfl, HB0.out⟩
  case round =>
    obtain ⟨i, l, hi, rfl, hn, hlen, hfl, hb⟩ := hrel
    have HFL := hide hfl
    clear hfl
    by_cases hlt : i < xs.length
    · have hne : xs ≠ [] := by intro e; rw [e] at hlt; simp at hlt
      obtain ⟨b, off, eo, -, hblt, hcs⟩ := H.out hne
      subst eo
      obtain ⟨cs, hcl, hkey, hr⟩ := hcs i _ (List.getElem?_eq_getElem hlt)
      generalize hxd : xs[i] = d at hr
      have HF2 : Hid (l ++ [d.s] = (xs.take (i + 1)).map Tr.s) := by
        show l ++ [d.s] = _
        rw [HFL.out, List.take_succ_eq_append_getElem hlt, List.map_append, hxd]
        rfl
      clear hxd
      obtain ⟨-, -, -, -, -, od, cd, rfl, hsz, -, -⟩ := hr
      have q0 := (hb.cell (p := ⟨b, off + i * 2 + 0, none⟩) hblt).trans (hkey 0 _ rfl)
      have q1 := (hb.cell (p := ⟨b, off + i * 2 + 1, none⟩) hblt).trans (hkey 1 _ rfl)
      rw [Nat.add_zero] at q0
      have hB1 : Below wr.heap.size wr ((wr.alloc (.cells #[.string d.s, .slice od d.l.length cd] 42)).alloc (.cells #[.string d.s] 9)) := ((Below.refl _ wr).alloc (Nat.le_refl _) _).alloc (by simp) _
      obtain ⟨v2, w2, hr2, hn2, hg2, -⟩ := (hn.later hB1).app (Nat.le_trans hb.size hB1.size) 1 (one_row (heap_alloc_new (wr.alloc (.cells #[.string d.s, .slice od d.l.length cd] 42)) (.cells #[.string d.s] 9)) hsz) (by simp only [List.length_singleton]; omega) 38
      rw [List.length_singleton, show (wr.alloc (.cells #[.string d.s, .slice od d.l.length cd] 42)).heap.size = wr.heap.size + 1 by simp] at hr2
      have HR2 := hide hr2
      have HN2 := hide hn2
      have HB2 : Hid (Below w.heap.size w w2) := hb.trans ((hB1.mono hb.size).trans (below_grown hg2 (Nat.le_trans hb.size hB1.size) fun k hk => ((hn.later hB1).lt k hk).2))
      have hlen2 : (l ++ [d.s]).length = i + 1 := by rw [List.length_append, hlen]; rfl
      have HL2 := hide hlen2
      clear hn hlen hb hcs hne hkey hr2 hn2 hg2 hB1 hsz hlen2 hcl
      go_wp2_with (at_builtin; refine Lib.wpList_append_run _ rfl _ _ _ _ rfl _ _ rfl rfl _ _ HR2.out ?_)
      go_roundw
      case rel => exact ⟨i + 1, _, by omega, by go_num, HN2.out, HL2.out, HF2.out, HB2.out⟩
      case measure => simp [intOf]; omega
    · have HN := hide hn
      have HB := hide hb
      clear hn hb
      go_wp2
      go_ret
      refine ⟨_, rfl, ?_, HB.out⟩
      have h9 := HN.out
      rw [HFL.out, List.take_of_length_le (by omega)] at h9
      exact h9
/-- A type's names are known. -/
def tkZ (N : List ByteArray) : Nat → Tr → Bool
  | 0, _ => false
  | h + 1, t => (!(t.k == 3) || alikeB N t.s) && t.l.all (tkZ N h)
theorem all_no2 {f : Tr → Bool} {l : List Tr} {i : Nat} {x : Tr} (hx : l[i]? = some x) (h : f x = false) : l.all f = false := by
  cases ha : l.all f with
  | false => rfl
  | true =>
    have := List.all_eq_true.1 ha x (List.mem_of_getElem? hx)
    rw [h] at this
    cases this
theorem take_all2 {f : Tr → Bool} {l : List Tr} {i : Nat} {x : Tr} (hx : l[i]? = some x) (hp : ∀ z ∈ l.take i, f z = true) (h : f x = true) : ∀ z ∈ l.take (i + 1), f z = true := by
  intro z hz
  rw [List.take_add_one, hx] at hz
  rcases List.mem_append.1 hz with hz | hz
  · exact hp z hz
  · have e : z = x := by simpa using hz
    rw [e]
    exact h
theorem all_yes {f : Tr → Bool} {l : List Tr} {i : Nat} (hi : ¬ i < l.length) (hp : ∀ z ∈ l.take i, f z = true) : l.all f = true :=
  List.all_eq_true.2 fun z hz => hp z (by rw [List.take_of_length_le (by omega)]; exact hz)
def TkP (N : List ByteArray) (h : Nat) : Prop := ∀ (K K' : Nat → Prop) (xs : List Tr) (o : Option Addr) (c : Nat) (on : Option Addr) (cn : Nat) (w : World), RowOf K w (tyR K w h) 4 o xs → xs.length ≤ maxLen → RowOf K' w strR 1 on N → Calls Tryz.prog 44 #[.slice o xs.length c, .slice on N.length cn] w fun e w' => e = .returned (.bool (xs.all (tkZ N h))) ∧ Below w.heap.size w w'
set_option maxHeartbeats 2000000 in
set_option maxRecDepth 100000 in
theorem tk_all {N : List ByteArray} (hN : N.length ≤ maxLen) : ∀ h, TkP N h := by
  intro h
  induction h with
  | zero =>
    intro K K' xs o c on cn w hx hl hn
    have hnil : xs = [] := by
      cases xs with
      | nil => rfl
      | cons x r =>
        obtain ⟨_, _, _, _, _, hc⟩ := hx (by simp)
        obtain ⟨_, _, _, h9⟩ := hc 0 x rfl
        exact h9.elim
    subst hnil
    go_enter Tryz.func44, Tryz.ntmps44
    go_wp2
    go_loop [9] (fun t => t = .int .i64 0) (fun _ => 0)
    case atStart => rfl
    case round =>
      subst hrel
      go_wp2
      go_ret
      exact ⟨rfl, Below.refl _ _⟩
  | succ h ih =>
    intro K K' xs o c on cn w hx hl hn
    have HX := hide hx
    have HNR := hide hn
    have IH := hide ih
    have hl2 : xs.length ≤ 9223372036854775807 := hl
    clear hx hn ih hl
    go_enter Tryz.func44, Tryz.ntmps44
    go_wp2
    go_loopw [9] (fun t9 wr => ∃ i : Nat, i ≤ xs.length ∧ t9 = .int .i64 i ∧ (∀ z ∈ xs.take i, tkZ N (h + 1) z = true) ∧ Below w.heap.size w wr) (fun t9 _ => xs.length - (intOf t9).toNat)
    case atStart => exact ⟨0, Nat.zero_le _, rfl, fun z hz => by simp at hz, Below.refl _ _⟩
    case round =>
      obtain ⟨i, hi, rfl, hpre, hb⟩ := hrel
      have HPRE := hide hpre
      have HB := hide hb
      clear hpre
      by_cases hlt : i < xs.length
      · have hne : xs ≠ [] := by intro e; rw [e] at hlt; simp at hlt
        obtain ⟨t, hxt⟩ : ∃ t, xs[i]? = some t := ⟨xs[i], List.getElem?_eq_getElem hlt⟩
        obtain ⟨b, off, eo, kb, hblt, hcs⟩ := HX.out hne
        subst eo
        obtain ⟨cs, hcl, hkey, hr⟩ := hcs i t hxt
        obtain ⟨-, -, -, ot, ct, rfl, hsz, hft, hrt⟩ := hr
        have p : ∀ j u, [.int .i64 t.k, .string t.s, .int .i64 t.n, .slice ot t.l.length ct][j]? = some u → wr.cell? ⟨b, off + i * 4 + j, none⟩ = some u := fun j u hu => (hb.cell (p := ⟨b, _, none⟩) hblt).trans (hkey j u hu)
        have q0 := p 0 _ rfl
        have q1 := p 1 _ rfl
        have q2 := p 2 _ rfl
        have q3 := p 3 _ rfl
        rw [Nat.add_zero] at q0
        obtain ⟨X, hX⟩ : ∃ X, wr.alloc (.cells #[.int .i64 t.k, .string t.s, .int .i64 t.n, .slice ot t.l.length ct] 48) = X := ⟨_, rfl⟩
        have hbX : Below w.heap.size w X := by rw [← hX]; exact hb.alloc hb.size _
        have hboxX : X.heap[wr.heap.size]? = some (.cells #[.int .i64 t.k, .string t.s, .int .i64 t.n, .slice ot t.l.length ct] 48 (0, 0)) := by rw [← hX]; exact heap_alloc_new wr _
        have y0 := cell_of hboxX 0
        have y1 := cell_of hboxX 1
        have y3 := cell_of hboxX 3
        simp only [List.getElem?_toArray, List.getElem?_cons_succ, List.getElem?_cons_zero] at y0 y1 y3
        have HCT := hide (contains_any N N.length rfl on cn t.s X hN (HNR.out.later hbX fun _ _ h => h))
        have HREC := hide (IH.out K K' t.l ot ct on cn X (hrt.later hbX fun _ _ hh => tyR_later hbX h _ _ hh) hft.1 (HNR.out.later hbX fun _ _ h => h))
        have HBX := hide hbX
        have HXT := hide hxt
        have hlt2 : (i : Int) < xs.length := by omega
        have HX' := hide hX
        clear hcs hne hkey hcl p hb hbX hxt hboxX hrt hft hsz hX
        have HTK : Hid (tkZ N (h + 1) t = ((!(t.k == 3) || alikeB N t.s) && t.l.all (tkZ N h))) := rfl
        cases hk : (t.k == 3)
        · have hk3 : ¬ (t.k = 3) := by simpa using hk
          rw [hk] at HTK
          cases hrb : t.l.all (tkZ N h)
          · have HN : Hid (xs.all (tkZ N (h + 1)) = false) := all_no2 HXT.out (by rw [HTK.out, hrb]; rfl)
            rw [hrb] at HREC
            go_upto_region 4 with fail
            rw [HX'.out]
            go_wp2_with fail
            refine Calls.mono HREC.out ?_
            rintro e w4 ⟨rfl, hb4⟩
            have HB4 := hide (HBX.out.trans (hb4.mono HBX.out.size))
            clear hb4
            go_wp2
            go_ret
            exact ⟨ret_b HN.out.symm, HB4.out⟩
          · have HN : Hid (tkZ N (h + 1) t = true) := by
              show tkZ N (h + 1) t = true
              rw [HTK.out, hrb]
              rfl
            rw [hrb] at HREC
            go_upto_region 4 with fail
            rw [HX'.out]
            go_wp2_with fail
            refine Calls.mono HREC.out ?_
            rintro e w4 ⟨rfl, hb4⟩
            have HB4 := hide (HBX.out.trans (hb4.mono HBX.out.size))
            clear hb4
            go_wp2
            go_roundw
            case rel => exact ⟨i + 1, by omega, by go_num, take_all2 HXT.out HPRE.out HN.out, HB4.out⟩
            case measure => simp [intOf]; omega
        · rw [hk] at HTK
          cases hal : alikeB N t.s
          · have HN : Hid (xs.all (tkZ N (h + 1)) = false) := all_no2 HXT.out (by rw [HTK.out, hal]; rfl)
            rw [hal] at HCT
            go_upto_region 4 with fail
            rw [HX'.out]
            go_wp2_with fail
            refine Calls.mono HCT.out ?_
            rintro e w4 ⟨rfl, rfl⟩
            go_wp2
            go_ret
            exact ⟨ret_b HN.out.symm, HBX.out⟩
          · rw [hal] at HCT
            cases hrb : t.l.all (tkZ N h)
            · have HN : Hid (xs.all (tkZ N (h + 1)) = false) := all_no2 HXT.out (by rw [HTK.out, hal, hrb]; rfl)
              rw [hrb] at HREC
              go_upto_region 4 with fail
              rw [HX'.out]
              go_wp2_with fail
              refine Calls.mono HCT.out ?_
              rintro e w3 ⟨rfl, rfl⟩
              go_wp2_with fail
              refine Calls.mono HREC.out ?_
              rintro e w4 ⟨rfl, hb4⟩
              have HB4 := hide (HBX.out.trans (hb4.mono HBX.out.size))
              clear hb4
              go_wp2
              go_ret
              exact ⟨ret_b HN.out.symm, HB4.out⟩
            · have HN : Hid (tkZ N (h + 1) t = true) := by
                show tkZ N (h + 1) t = true
                rw [HTK.out, hal, hrb]
                rfl
              rw [hrb] at HREC
              go_upto_region 4 with fail
              rw [HX'.out]
              go_wp2_with fail
              refine Calls.mono HCT.out ?_
              rintro e w3 ⟨rfl, rfl⟩
              go_wp2_with fail
              refine Calls.mono HREC.out ?_
              rintro e w4 ⟨rfl, hb4⟩
              have HB4 := hide (HBX.out.trans (hb4.mono HBX.out.size))
              clear hb4
              go_wp2
              go_roundw
              case rel => exact ⟨i + 1, by omega, by go_num, take_all2 HXT.out HPRE.out HN.out, HB4.out⟩
              case measure => simp [intOf]; omega
      · have HN : Hid (xs.all (tkZ N (h + 1)) = true) := all_yes hlt HPRE.out
        clear hb
        go_wp2
        go_ret
        exact ⟨ret_b HN.out.symm, HB.out⟩
end Go.Proofs.YtlaeenfeajkcfalGreat.Fr
namespace Go.Proofs.YtlaeenfeajkcfalGreat.Fr
open Go.ChangeShapes Go.WideShapes Go.ChangeAt Go.RowKit Go.Proofs.YtlaeenfeajkcfalGreat.Nm
set_option linter.unusedVariables false

def coK (N : List ByteArray) (h : Nat) (c : Tr) : Bool := c.l.all (tkZ N h)
def daK (N : List ByteArray) (h : Nat) (d : Tr) : Bool := d.l.all (coK N h)
set_option maxHeartbeats 2000000 in
set_option maxRecDepth 100000 in
theorem typesKnown_any {K : Nat → Prop} {h : Nat} (xs : List Tr) (o : Option Addr) (c : Nat) (w : World) (hx : RowOf K w (daR K w h) 2 o xs) (hl : xs.length ≤ 10000000) :
    Calls Tryz.prog 21 #[.slice o xs.length c] w fun e w' => e = .returned (.bool (xs.all (daK (xs.map Tr.s) h))) ∧ Below w.heap.size w w' := by
  have HX := hide hx
  have HNM := hide (namesOfDatas_any xs o c w hx hl)
  clear hx
  go_enter Tryz.func21, Tryz.ntmps21
  go_wp2_with fail
  refine Calls.mono HNM.out ?_
  rintro e w1 ⟨vk, rfl, hkn, hb1⟩
  obtain ⟨ok, ck, rfl, hkc, hkr⟩ := hkn.rowOf
  have HKR := hide hkr
  have HB1 := hide hb1
  have hkl : (xs.map Tr.s).length ≤ maxLen := hkn.2.2
  have HTK := hide (tk_all hkl h)
  have hkn2 : (xs.map Tr.s).length = xs.length := List.length_map _
  generalize hNN : xs.map Tr.s = N at HKR HTK hkl hkn2 ⊢
  have HNN := hide hNN
  clear hkn hkr hb1 hNN
  rw [hkn2]
  go_wp2
  go_loopw [12] (fun t wr => ∃ i : Nat, i ≤ xs.length ∧ t = .int .i64 i ∧ (∀ z ∈ xs.take i, daK N h z = true) ∧ Below w1.heap.size w1 wr) (fun t _ => xs.length - (intOf t).toNat)
  case atStart => exact ⟨0, Nat.zero_le _, rfl, fun z hz => by simp at hz, Below.refl _ _⟩
  case round =>
    obtain ⟨i, hi, rfl, hpre, hb⟩ := hrel
    have HPRE := hide hpre
    have HB := hide hb
    clear hpre
    by_cases hlt : i < xs.length
    · have hne : xs ≠ [] := by intro e; rw [e] at hlt; simp at hlt
      obtain ⟨d, hx⟩ : ∃ d, xs[i]? = some d := ⟨xs[i], List.getElem?_eq_getElem hlt⟩
      have hbw : Below w.heap.size w wr := HB1.out.trans (hb.mono HB1.out.size)
      obtain ⟨b, off, eo, -, hbl, hcs⟩ := HX.out hne
      subst eo
      obtain ⟨cs, hlen, hkey, hrd⟩ := hcs i d hx
      obtain ⟨-, -, -, -, -, od, cd, rfl, -, hfd, hrd⟩ := hrd
      have q0 := (hbw.cell (p := ⟨b, off + i * 2 + 0, none⟩) hbl).trans (hkey 0 _ rfl)
      have q1 := (hbw.cell (p := ⟨b, off + i * 2 + 1, none⟩) hbl).trans (hkey 1 _ rfl)
      rw [Nat.add_zero] at q0
      have HXD := hide hx
      have HRD := hide hrd
      have hd2 : d.l.length ≤ 9223372036854775807 := hfd.1
      have HA : Hid (Below w1.heap.size w1 (wr.alloc (.cells #[.string d.s, .slice od d.l.length cd] 42))) := hb.alloc hb.size _
      clear hcs hx hne hkey hlen hrd hfd hb hbw
      have hlt2 : (i : Int) < xs.length := by omega
      go_wp2
      go_loopw [19] (fun t wr => ∃ k : Nat, k ≤ d.l.length ∧ t = .int .i64 k ∧ (∀ z ∈ d.l.take k, coK N h z = true) ∧ Below w1.heap.size w1 wr) (fun t _ => d.l.length - (intOf t).toNat)
      case atStart => exact ⟨0, Nat.zero_le _, rfl, fun z hz => by simp at hz, HA.out⟩
      case round =>
        obtain ⟨k, hk, rfl, hpre, hb⟩ := hrel
        have HPRE2 := hide hpre
        have HB2 := hide hb
        clear hpre
        by_cases hlk : k < d.l.length
        · have hne : d.l ≠ [] := by intro e; rw [e] at hlk; simp at hlk
          obtain ⟨cc, hx⟩ : ∃ c, d.l[k]? = some c := ⟨d.l[k], List.getElem?_eq_getElem hlk⟩
          have hbw : Below w.heap.size w wr := HB1.out.trans (hb.mono HB1.out.size)
          obtain ⟨b2, off2, eo, -, hbl2, hcs⟩ := HRD.out hne
          subst eo
          obtain ⟨cs, hlen, hkey, hrd⟩ := hcs k cc hx
          obtain ⟨-, -, -, -, -, oc, cv, rfl, -, hfc, hrc⟩ := hrd
          have r0 := (hbw.cell (p := ⟨b2, off2 + k * 2 + 0, none⟩) hbl2).trans (hkey 0 _ rfl)
          have r1 := (hbw.cell (p := ⟨b2, off2 + k * 2 + 1, none⟩) hbl2).trans (hkey 1 _ rfl)
          rw [Nat.add_zero] at r0
          obtain ⟨X, hX⟩ : ∃ X, wr.alloc (.cells #[.string cc.s, .slice oc cc.l.length cv] 45) = X := ⟨_, rfl⟩
          have hbX : Below w1.heap.size w1 X := by rw [← hX]; exact hb.alloc hb.size _
          have hboxX : X.heap[wr.heap.size]? = some (.cells #[.string cc.s, .slice oc cc.l.length cv] 45 (0, 0)) := by rw [← hX]; exact heap_alloc_new wr _
          have y1 := cell_of hboxX 1
          simp only [List.getElem?_toArray, List.getElem?_cons_succ, List.getElem?_cons_zero] at y1
          have hbwX : Below w.heap.size w X := HB1.out.trans (hbX.mono HB1.out.size)
          have hcall := HTK.out K _ cc.l oc cv ok ck X (hrc.later hbwX fun _ _ hh => tyR_later hbwX h _ _ hh) hfc.1 (HKR.out.later hbX fun _ _ h => h)
          rw [hkn2] at hcall
          have HCALL := hide hcall
          have HBX := hide hbX
          have HC := hide hx
          have HX' := hide hX
          have hlk2 : (k : Int) < d.l.length := by omega
          clear hcs hx hne hkey hlen hfc hrc hb hbX hboxX hbw hbwX hcall hX
          cases hco : cc.l.all (tkZ N h)
          · have HN : Hid (xs.all (daK (xs.map Tr.s) h) = false) := by
              rw [HNN.out]
              exact all_no2 HXD.out (all_no2 HC.out hco)
            rw [hco] at HCALL
            go_upto_region 8 with fail
            rw [HX'.out]
            go_wp2_with fail
            refine Calls.mono HCALL.out ?_
            rintro e w4 ⟨rfl, hb4⟩
            have HB4 := hide (HB1.out.trans ((HBX.out.trans (hb4.mono HBX.out.size)).mono HB1.out.size))
            clear hb4
            go_wp2
            go_ret
            exact ⟨ret_b HN.out.symm, HB4.out⟩
          · have HN : Hid (coK N h cc = true) := hco
            rw [hco] at HCALL
            go_upto_region 8 with fail
            rw [HX'.out]
            go_wp2_with fail
            refine Calls.mono HCALL.out ?_
            rintro e w4 ⟨rfl, hb4⟩
            have HB4 := hide (HBX.out.trans (hb4.mono HBX.out.size))
            clear hb4
            go_wp2
            go_roundw
            case rel => exact ⟨k + 1, by omega, by go_num, take_all2 HC.out HPRE2.out HN.out, HB4.out⟩
            case measure => simp [intOf]; omega
        · have HN : Hid (daK N h d = true) := all_yes hlk HPRE2.out
          clear hb
          go_wp2
          go_roundw
          case rel => exact ⟨i + 1, by omega, by go_num, take_all2 HXD.out HPRE.out HN.out, HB2.out⟩
          case measure => simp [intOf]; omega
    · have HN : Hid (xs.all (daK N h) = true) := all_yes hlt HPRE.out
      clear hb
      go_wp2
      go_ret
      exact ⟨ret_b (by rw [HNN.out]; exact HN.out.symm), HB1.out.trans (HB.out.mono HB1.out.size)⟩
end Go.Proofs.YtlaeenfeajkcfalGreat.Fr
