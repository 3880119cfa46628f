/- The program's bareDec: functions of the Pars, a let of the Where, around the body. -/
import Derived.Test.YtgeckgdmkjddpaaZXJ
namespace Go.Proofs.Ytgeckgdmkjddpaa.Cp
open Go.ChangeShapes Go.WideShapes Go.ChangeAt Go.RowKit Go.Proofs.Ytgeckgdmkjddpaa.Vo Go.Proofs.Ytgeckgdmkjddpaa.Rd Go.Proofs.Ytgeckgdmkjddpaa.Br
set_option linter.unusedVariables false

set_option maxHeartbeats 8000000 in
set_option maxRecDepth 100000 in
theorem dec_any {K : Nat → Prop} {w0 w : World} {C M : Nat} {E D A : List Pe} {N : List Ne} {X : List Nat} (hm : Mem K w0 C M E D A N X w) {g p : Nat} (hg : g ∈ X) {arr : Array Value} {T : TypeId} (hbk : w.heap[g]? = some (.cells arr T (0, 0))) (h : Nat) (x e : Tr) (o : Option Addr) (c : Nat) (o2 : Option Addr) (c2 : Nat) (ce : List Value) (hcl : ce.length = 6) (hce : (reads K w0 (h + 1)).ex e ce) (hro : RowOf K w0 strR 1 o x.ss) (hfo : x.ss.length ≤ c) (hrd : RowOf K w0 (reads K w0 (h + 1)).de 9 o2 x.ds) (hfd : x.ds.length ≤ c2) (hat : ∀ (j : Nat) u, ([.string x.s, .slice o x.ss.length c] ++ ce ++ [.slice o2 x.ds.length c2])[j]? = some u → arr[p + j]? = some u) (hs : x.s.size ≤ 1048576) (hsw : sw x.ss ≤ 1048576) (hw : (wts (h + 1)).ex e ≤ 1048576) (hwd : lw (wts (h + 1)).de x.ds ≤ 1048576) (hE : E.length ≤ 3000000) (hD : D.length ≤ 2000000) (hA : A.length ≤ 3000000) :
    Calls Try.prog 30 #[.pointer (some ⟨C, 0, none⟩), .pointer (some ⟨g, p, none⟩), .bool false] w fun r w' => r = .returned (.tuple #[]) ∧ ∃ Y ce' arr' FE FD FA, ce'.length = 6 ∧ Mem K w0 C M (E ++ FE) (D ++ FD) (A ++ FA) N (Y ++ X) w' ∧ w'.heap[g]? = some (.cells arr' T (0, 0)) ∧ (∀ (j : Nat) u, ([.string x.s, .slice none 0 0] ++ ce' ++ [.slice none 0 0])[j]? = some u → arr'[p + j]? = some u) ∧ (∀ k, k < p ∨ p + 8 < k → arr'[k]? = arr[k]?) ∧ arr'.size = arr.size ∧ Keeps (fun b => b < w0.heap.size ∨ (b ∈ X ∧ b ≠ g)) w w' ∧ Owe w' (Isc 0 (lams x.ss (wlet (x.ds.map (tgt 1 (h + 1))) ((brs (h + 1)).ex e))) ce') Y ((FE ++ FD ++ FA).map Pe.pd) ∧ wtP (FE ++ FD ++ FA) ≤ (wts (h + 1)).ex e + lw (wts (h + 1)).de x.ds := by
  have hln : x.ss.length ≤ 1048576 := by unfold sw at hsw; omega
  have hld : x.ds.length ≤ 1048576 := by unfold lw at hwd; omega
  have hsz := sw_size hsw
  obtain ⟨eo1, ec1, eo2, ec2, eo3, ec3, rfl⟩ := ex_form hce
  have q0 := hat 0 _ rfl
  have q1 := hat 1 _ rfl
  have q2 := hat 2 _ rfl
  have q3 := hat 3 _ rfl
  have q4 := hat 4 _ rfl
  have q5 := hat 5 _ rfl
  have q6 := hat 6 _ rfl
  have q7 := hat 7 _ rfl
  have q8 := hat 8 _ rfl
  rw [Nat.add_zero] at q0
  have hp8 : p + 8 < arr.size := (Array.getElem?_eq_some_iff.1 q8).1
  have hgl : g < w.heap.size := heap_lt hbk
  have HM := hide hm
  have HCE := hide hce
  have HRO := hide hro
  have HRD := hide hrd
  have HBK := hide hbk
  have HSZ := hide hsz
  have HQ := hide (And.intro q0 (And.intro q1 q8))
  have y1 := cell_of hbk (p + 1)
  have y2 := cell_of hbk (p + 2)
  have y3 := cell_of hbk (p + 3)
  have y4 := cell_of hbk (p + 4)
  have y5 := cell_of hbk (p + 5)
  have y6 := cell_of hbk (p + 6)
  have y7 := cell_of hbk (p + 7)
  rw [q1] at y1
  rw [q2] at y2
  rw [q3] at y3
  rw [q4] at y4
  rw [q5] at y5
  rw [q6] at y6
  rw [q7] at y7
  clear hm hce hro hrd hbk hsz hat q0 q1 q2 q3 q4 q5 q6 q7 q8
  go_enter Try.func30, Try.ntmps30
  go_upto_region 0 with fail
  go_region
  obtain ⟨W1, hW1⟩ : ∃ W, (w.alloc (.cells #[.int .i64 e.k, .string e.s, .int .i64 e.n, .slice eo1 e.l.length ec1, .slice eo2 e.ds.length ec2, .slice eo3 e.al.length ec3] 32)).drew = W := ⟨_, rfl⟩
  rw [hW1]
  have hb1 : Below w.heap.size w W1 := by rw [← hW1]; exact ((Below.refl _ w).alloc (Nat.le_refl _) _).drew
  have hx1 : W1.heap[w.heap.size]? = some (.cells #[.int .i64 e.k, .string e.s, .int .i64 e.n, .slice eo1 e.l.length ec1, .slice eo2 e.ds.length ec2, .slice eo3 e.al.length ec3] 32 (0, 0)) := by rw [← hW1]; exact heap_alloc_new w _
  have hg1 : W1.heap[g]? = some (.cells arr T (0, 0)) := (hb1.block g hgl).trans HBK.out
  have hm1 := HM.out.new hb1 (Nat.le_refl _) (heap_lt hx1)
  obtain ⟨b0, hb0⟩ : ∃ b0, w.heap.size = b0 := ⟨_, rfl⟩
  rw [hb0] at hx1 hm1
  have hgb0 : g ≠ b0 := by omega
  have HX1 := hide hx1
  have HM1 := hide hm1
  have HB1 := hide hb1
  have HH1 := hide (HoleAt.start hg1 (by omega : p + 7 < arr.size))
  have y1 := cell_of hg1 (p + 1)
  rw [HQ.out.2.1] at y1
  clear hb1 hx1 hg1 hm1 hW1 y2 y3 y4 y5 y6 y7
  rw [hb0]
  go_wp2
  clear y1
  go_loopw [7, 22] (fun t7 t22 wr => ∃ (i : Nat) (ga : Array Value) (hgb hp : Nat) (ha : Array Value) (T' : TypeId) (Y : List Nat), i ≤ x.ss.length ∧ t22 = .int .i64 i ∧ t7 = .pointer (some ⟨hgb, hp, none⟩) ∧ HoleAt wr g p arr T ga hgb hp ha T' Y [] (lams (x.ss.take i)) ∧ Mem K w0 C M E D A N (Y ++ (b0 :: X)) wr ∧ Keeps (fun b => b < w0.heap.size ∨ (b ∈ b0 :: X ∧ b ≠ g)) W1 wr) (fun _ t22 _ => x.ss.length - (intOf t22).toNat)
  case atStart => exact ⟨0, _, _, _, _, _, [], Nat.zero_le _, rfl, rfl, HH1.out, HM1.out, Keeps.refl _ _⟩
  case round =>
    obtain ⟨i, ga, hgb, hp, ha, T', Y, hi, rfl, rfl, hh, hmr, hkr⟩ := hrel
    have HH := hide hh
    have HMR := hide hmr
    have HKR := hide hkr
    clear hh hmr hkr
    by_cases hlt : i < x.ss.length
    · obtain ⟨z, hz⟩ : ∃ z, x.ss[i]? = some z := ⟨x.ss[i], List.getElem?_eq_getElem hlt⟩
      obtain ⟨b, off, eo, kb, hbl, hcs⟩ := HRO.out (by intro e9; rw [e9] at hlt; simp at hlt)
      subst eo
      obtain ⟨cz, hclz, hkey, hrz⟩ := hcs i z hz
      obtain ⟨rfl, hzs⟩ := hrz
      have hws := HMR.out.size
      have q9 : wr.cell? ⟨b, off + i, none⟩ = some (.string z) := by
        have h9 := hkey 0 _ rfl
        rw [Nat.mul_one, Nat.add_zero] at h9
        obtain ⟨_, _, _, _, h8⟩ := HMR.out
        exact (h8.old.cell (p := ⟨b, off + i, none⟩) hbl).trans h9
      have hzb : z.size ≤ 1048576 := HSZ.out z (List.mem_of_getElem? hz)
      have hlm : (fun t : Tr => lams (x.ss.take i) ⟨5, z, 0, [], [t], [], []⟩) = lams (x.ss.take (i + 1)) := by
        funext t
        rw [List.take_add_one, hz]
        exact (lams_snoc _ z t).symm
      obtain ⟨⟨k1, k2, k3, k4, hbox⟩, htx, hXC, hMC, hC0, hM0⟩ := HMR.out.ptrs
      have hin : hgb ∈ Y ++ (b0 :: X) := by
        rcases HH.out.hin with ⟨e1, -, -, -⟩ | ⟨e1, -, -⟩
        · rw [e1]; simp [hg]
        · simp [e1]
      have t8 := cell_of hbox 8
      simp only [ecv, List.getElem?_toArray, List.getElem?_cons_succ, List.getElem?_cons_zero] at t8
      have HXC := hide hXC
      have HTX := hide htx
      have HLM := hide hlm
      have hlt2 : (i : Int) < x.ss.length := by omega
      have hge : (0 : Int) ≤ (i : Int) := by omega
      clear hbox htx hXC hlm hcs hkey hz hclz hzs
      go_wp2_with fail
      refine (of_any M z wr hzb HTX.out).mono ?_
      rintro r U ⟨rfl, htU, hvU⟩
      have hmU := (HMR.out.texts htU hvU).1
      have hgX : g ∈ Y ++ (b0 :: X) := by simp [hg]
      have hhU := HH.out.keep (hvU.block g ⟨(HMR.out.x_lt hgX).2, (HXC.out g hgX).2⟩) fun b hb => hvU.block b ⟨(HMR.out.x_lt (by simp [hb])).2, (HXC.out b (by simp [hb])).2⟩
      have HHU := hide hhU
      have HMU := hide hmU
      have HVU := hide hvU
      have HP := hide (putLam z hhU.hat hhU.hfit)
      clear htU hvU hhU hmU t8 q9
      go_wp2_with fail
      refine HP.out.mono ?_
      rintro r V ⟨q, hq1, hq2, rfl, hq3, hq4, hq5⟩
      obtain ⟨ga', hh'⟩ := HHU.out.put (ds := []) (PW2 := []) (fun b hb => (HMU.out.x_lt (by simp [hb])).2) (by unfold maxLen; omega) hq1 hq4 hq3 hq5 (fun w => owe_row 1 (.slice none 0 0) [] fun _ => rfl) ⟨_, _, _, rfl⟩
      rw [HLM.out] at hh'
      have hm' := HMU.out.mvNew hin hq5 hq1 hq2
      have hnd := HMU.out.x_nodup
      have hk' : Keeps (fun b => b < w0.heap.size ∨ (b ∈ b0 :: X ∧ b ≠ g)) W1 V := HKR.out.trans ⟨hq5.os.trans HVU.out.os, hq5.tape.trans HVU.out.tape, hq5.output.trans HVU.out.output, Nat.le_trans HVU.out.size hq5.size, fun b hb => by
        have hbl2 : b < wr.heap.size ∧ b ≠ M := by
          rcases hb with hb | hb
          · have := HMR.out.size
            exact ⟨by omega, by omega⟩
          · exact ⟨(HMR.out.x_lt (by simp only [List.mem_append]; exact .inr hb.1)).2, (HXC.out b (by simp only [List.mem_append]; exact .inr hb.1)).2⟩
        have hbh : b ≠ hgb := by
          rcases hb with hb | hb
          · have := (HMR.out.x_lt hin).1
            omega
          · rcases HHU.out.hin with ⟨e1, -, -, -⟩ | ⟨e1, -, -⟩
            · rw [e1]; exact hb.2
            · exact fun e9 => (List.nodup_append.1 hnd).2.2 hgb e1 b hb.1 e9.symm
        exact (hq5.block b ⟨Nat.lt_of_lt_of_le hbl2.1 HVU.out.size, hbh⟩).trans (HVU.out.block b hbl2)⟩
      have HH' := hide hh'
      have HM' := hide hm'
      have HK' := hide hk'
      clear hq3 hq4 hq5 hh' hm' hk' hnd HP
      go_wp2
      go_roundw
      case rel => exact ⟨i + 1, ga', q, 0, _, _, q :: Y, by omega, by go_num, rfl, HH'.out, HM'.out, HK'.out⟩
      case measure => simp [intOf]; omega
    · have hie : i = x.ss.length := by omega
      subst hie
      have hh2 := HH.out
      rw [List.take_length] at hh2
      have hq8 : ga[p + 8]? = some (.slice o2 x.ds.length c2) := (HH.out.rest (p + 8) (by omega)).trans HQ.out.2.2
      have z8 := cell_of HH.out.gat (p + 8)
      rw [hq8] at z8
      have hge : (0 : Int) ≤ (x.ss.length : Int) := by omega
      have hin : hgb ∈ Y ++ (b0 :: X) := by
        rcases HH.out.hin with ⟨e1, -, -, -⟩ | ⟨e1, -, -⟩
        · rw [e1]; simp [hg]
        · simp [e1]
      have HH2 := hide hh2
      have HQ8 := hide hq8
      clear hh2 hq8
      go_upto_if 42 with fail
      go_cut [7] (fun t7 W => ∃ (ga : Array Value) (hgb hp : Nat) (ha : Array Value) (T' : TypeId) (Y : List Nat) (FD : List Pe), t7 = .pointer (some ⟨hgb, hp, none⟩) ∧ HoleAt W g p arr T ga hgb hp ha T' Y (FD.map Pe.pd) (fun t => lams x.ss (wlet (x.ds.map (tgt 1 (h + 1))) t)) ∧ wtP FD = lw (wts (h + 1)).de x.ds ∧ FD.length ≤ 1 ∧ Mem K w0 C M E (D ++ FD) A N (Y ++ (b0 :: X)) W ∧ Keeps (fun b => b < w0.heap.size ∨ (b ∈ b0 :: X ∧ b ≠ g)) W1 W)
      case first =>
        by_cases hds : x.ds = []
        · have hl0 : x.ds.length = 0 := by rw [hds]; rfl
          have HREL : Hid (HoleAt wr g p arr T ga hgb hp ha T' Y (([] : List Pe).map Pe.pd) (fun t => lams x.ss (wlet (x.ds.map (tgt 1 (h + 1))) t)) ∧ wtP [] = lw (wts (h + 1)).de x.ds ∧ ([] : List Pe).length ≤ 1 ∧ Mem K w0 C M E (D ++ []) A N (Y ++ (b0 :: X)) wr) := by
            refine ⟨?_, by rw [hds]; rfl, Nat.zero_le _, by rw [List.append_nil]; exact HMR.out⟩
            rw [hds]
            exact HH2.out
          clear hds
          go_wp2
          go_meet
          exact ⟨ga, hgb, hp, ha, T', Y, [], rfl, HREL.out.1, HREL.out.2.1, HREL.out.2.2.1, HREL.out.2.2.2, HKR.out⟩
        · have hl0 : (0 : Int) < x.ds.length := by
            have := List.length_pos_iff.2 hds
            omega
          have HDS := hide hds
          clear hds
          have hgX : g ∈ Y ++ (b0 :: X) := by simp [hg]
          have HCP := hide (copy_1 (w := wr.drew) (HMR.out.drewN 1) (h + 1) x.ds o2 c2 HRD.out hfd hld (by omega))
          go_upto_region 7 with fail
          go_region_with (first
            | (go_at_call 42; (with_reducible refine Calls.mono HCP.out ?_); rintro r U ⟨v4, FD, rfl, hn4, hmU, hkU⟩; obtain ⟨o4, c4, rfl⟩ := hn4.form; have hgU : U.heap[g]? = wr.heap[g]? := hkU.block g (.inr hgX); have hhU := HH2.out.keep hgU fun b hb => hkU.block b (.inr (by simp [hb])); have HHU := hide hhU; have HMU := hide hmU; have HKU := hide hkU; have HN4 := hide hn4; have HP := hide (putLet o4 x.ds.length c4 hhU.hat hhU.hfit); clear hmU hkU hn4 hgU hhU)
            | (go_at_call 62; refine Calls.mono HP.out ?_; rintro r V ⟨q, hq1, hq2, rfl, hq3, hq4, hq5⟩; have HQ1 := hide (And.intro hq1 (And.intro hq2 (And.intro hq3 (And.intro hq4 hq5)))); clear hq1 hq2 hq3 hq4 hq5))
          obtain ⟨hq1, hq2, hq3, hq4, hq5⟩ := HQ1.out
          obtain ⟨ga', hh'⟩ := HHU.out.put (ds := x.ds.map (tgt 1 (h + 1))) (PW2 := FD.map Pe.pd) (fun b hb => (HMU.out.x_lt (by simp [hb])).2) (by decide) hq1 hq4 hq3 hq5 (fun w => HN4.out.owe) ⟨_, _, _, rfl⟩
          have hm' := HMU.out.mvNew hin hq5 hq1 hq2
          have hnd := HMU.out.x_nodup
          have hk' : Keeps (fun b => b < w0.heap.size ∨ (b ∈ b0 :: X ∧ b ≠ g)) W1 V := HKR.out.trans ⟨hq5.os.trans HKU.out.os, hq5.tape.trans HKU.out.tape, hq5.output.trans HKU.out.output, Nat.le_trans HKU.out.size hq5.size, fun b hb => by
            have hbx : b < w0.heap.size ∨ b ∈ Y ++ (b0 :: X) := hb.imp id fun h9 => List.mem_append_right _ h9.1
            have hbl2 : b < U.heap.size := by
              rcases hbx with hb9 | hb9
              · have := HMU.out.size
                omega
              · exact (HMU.out.x_lt hb9).2
            have hbh : b ≠ hgb := by
              rcases hb with hb | hb
              · have := (HMR.out.x_lt hin).1
                omega
              · rcases HHU.out.hin with ⟨e1, -, -, -⟩ | ⟨e1, -, -⟩
                · rw [e1]; exact hb.2
                · exact fun e9 => (List.nodup_append.1 hnd).2.2 hgb e1 b hb.1 e9.symm
            exact (hq5.block b ⟨hbl2, hbh⟩).trans (HKU.out.block b hbx)⟩
          have hlm : (fun t : Tr => lams x.ss ⟨6, ⟨#[]⟩, 0, [], [t], x.ds.map (tgt 1 (h + 1)), []⟩) = (fun t => lams x.ss (wlet (x.ds.map (tgt 1 (h + 1))) t)) := by
            funext t
            unfold wlet
            rw [if_neg (by simpa using HDS.out)]
          rw [hlm, List.append_nil] at hh'
          have HREL : Hid (HoleAt V g p arr T ga' q 0 ze.toArray 32 (q :: Y) (FD.map Pe.pd) (fun t => lams x.ss (wlet (x.ds.map (tgt 1 (h + 1))) t)) ∧ Mem K w0 C M E (D ++ FD) A N (q :: Y ++ (b0 :: X)) V) := ⟨hh', hm'⟩
          have HK' := hide hk'
          have hwt := HN4.out.wt
          clear hq3 hq4 hq5 hh' hm' hk' hlm hnd
          go_wp2
          go_meet
          exact ⟨ga', q, 0, _, _, q :: Y, FD, rfl, HREL.out.1, hwt, HN4.out.len, HREL.out.2, HK'.out⟩
      case rest =>
        obtain ⟨ga2, hg2, hp2, ha2, T2, Y2, FD, rfl, hh3, hwt, hfl1, hm3, hk3⟩ := hcut
        generalize wc = V at hh3 hm3 hk3 ⊢
        have hxV : V.heap[b0]? = some (.cells #[.int .i64 e.k, .string e.s, .int .i64 e.n, .slice eo1 e.l.length ec1, .slice eo2 e.ds.length ec2, .slice eo3 e.al.length ec3] 32 (0, 0)) := (hk3.block b0 (.inr ⟨by simp, fun e9 => hgb0 e9.symm⟩)).trans HX1.out
        have x0 := cell_of hxV 0
        have x1 := cell_of hxV 1
        have x2 := cell_of hxV 2
        have x3 := cell_of hxV 3
        have x4 := cell_of hxV 4
        have x5 := cell_of hxV 5
        simp only [List.getElem?_toArray, List.getElem?_cons_succ, List.getElem?_cons_zero] at x0 x1 x2 x3 x4 x5
        have hin2 : hg2 ∈ Y2 ++ (b0 :: X) := by
          rcases hh3.hin with ⟨e1, -, -, -⟩ | ⟨e1, -, -⟩
          · rw [e1]; simp [hg]
          · simp [e1]
        have hfit := hh3.hfit
        have z0 := cell_of hh3.hat hp2
        have z1 := cell_of hh3.hat (hp2 + 1)
        have z2 := cell_of hh3.hat (hp2 + 2)
        have z3 := cell_of hh3.hat (hp2 + 3)
        have z4 := cell_of hh3.hat (hp2 + 4)
        have z5 := cell_of hh3.hat (hp2 + 5)
        rw [Array.getElem?_eq_getElem (by omega)] at z0 z1 z2 z3 z4 z5
        have f0 := frozen_of hh3.hat hp2
        have f1 := frozen_of hh3.hat (hp2 + 1)
        have f2 := frozen_of hh3.hat (hp2 + 2)
        have f3 := frozen_of hh3.hat (hp2 + 3)
        have f4 := frozen_of hh3.hat (hp2 + 4)
        have f5 := frozen_of hh3.hat (hp2 + 5)
        have hS := set6_at (p := hp2) hh3.hat (.int .i64 e.k) (.string e.s) (.int .i64 e.n) (.slice eo1 e.l.length ec1) (.slice eo2 e.ds.length ec2) (.slice eo3 e.al.length ec3)
        have hSk := set6_keeps V hg2 hp2 (.int .i64 e.k) (.string e.s) (.int .i64 e.n) (.slice eo1 e.l.length ec1) (.slice eo2 e.ds.length ec2) (.slice eo3 e.al.length ec3)
        obtain ⟨pg1, pg2, pg3⟩ := put6_get hh3.hfit (.int .i64 e.k) (.string e.s) (.int .i64 e.n) (.slice eo1 e.l.length ec1) (.slice eo2 e.ds.length ec2) (.slice eo3 e.al.length ec3)
        have HEX := hide (exp_any (hm3.set6 hin2 hp2 (.int .i64 e.k) (.string e.s) (.int .i64 e.n) (.slice eo1 e.l.length ec1) (.slice eo2 e.ds.length ec2) (.slice eo3 e.al.length ec3)) hin2 hS h e _ HCE.out pg1 hw hE (by rw [List.length_append]; omega) hA)
        have HH3 := hide hh3
        have HM3 := hide hm3
        have HK3 := hide hk3
        have HS := hide hS
        have HSK := hide hSk
        have PG := hide (And.intro pg1 (And.intro pg2 pg3))
        clear hh3 hm3 hk3 hS hSk pg1 pg2 pg3 hxV z8 HMR HKR HH HH2 HQ8 hin HM1 HH1
        go_wp2_with fail
        refine HEX.out.mono ?_
        rintro r W2 ⟨rfl, v1, v2, v3, F1, F2, F3, hn1, hn2, hn3, hm4, hg4, hk4⟩
        obtain ⟨p1, r1, rfl⟩ := hn1.form
        obtain ⟨p2, r2, rfl⟩ := hn2.form
        obtain ⟨p3, r3, rfl⟩ := hn3.form
        have hes : e.s.size ≤ 1048576 := by
          have h9 : e.s.size + lw (wts h).ex e.l + lw (wts h).de e.ds + lw (wts h).al e.al ≤ 1048576 := hw
          omega
        have hsx := set3_six (arr := put6 ha2 hp2 (.int .i64 e.k) (.string e.s) (.int .i64 e.n) (.slice eo1 e.l.length ec1) (.slice eo2 e.ds.length ec2) (.slice eo3 e.al.length ec3)) (p := hp2) (by rw [PG.out.2.2]; exact hfit) (a0 := .int .i64 e.k) (a1 := .string e.s) (a2 := .int .i64 e.n) (by have h9 := PG.out.1 0 _ rfl; simpa using h9) (PG.out.1 1 _ rfl) (PG.out.1 2 _ rfl) (.slice p1 e.l.length r1) (.slice p2 e.ds.length r2) (.slice p3 e.al.length r3)
        have hgX2 : g ∈ Y2 ++ (b0 :: X) := by simp [hg]
        have hgY2 : g ∉ Y2 := fun h9 => (List.nodup_append.1 HM3.out.x_nodup).2.2 g h9 g (by simp [hg]) rfl
        have hkg : hg2 ≠ g → W2.heap[g]? = some (.cells ga2 T (0, 0)) := fun hne => (hk4.block g (.inr ⟨hgX2, fun e9 => hne e9.symm⟩)).trans ((HSK.out.block g fun e9 => hne e9.symm).trans HH3.out.gat)
        obtain ⟨ga3, hga3, hrest3, hsz3, hgg3⟩ : ∃ ga3, W2.heap[g]? = some (.cells ga3 T (0, 0)) ∧ (∀ k, k < p + 2 ∨ p + 7 < k → ga3[k]? = arr[k]?) ∧ ga3.size = arr.size ∧ (hg2 ≠ g → ga3 = ga2) := by
          rcases HH3.out.hin with ⟨e1, e2, e3, e4⟩ | ⟨e1, e2, e3⟩
          · have hT : T2 = T := by
              have h9 := HH3.out.hat
              rw [e1, HH3.out.gat] at h9
              have h8 : ha2 = ga2 ∧ T2 = T := by simpa using h9.symm
              exact h8.2
            rw [e1, hT] at hg4
            refine ⟨_, hg4, fun k hk => ?_, ?_, fun h9 => absurd e1 h9⟩
            · rw [hsx.2.1 k (by omega), PG.out.2.1 k (by omega), ← e4]
              exact HH3.out.rest k hk
            · rw [hsx.2.2, PG.out.2.2, ← e4]
              exact HH3.out.gsz
          · exact ⟨ga2, hkg e2, HH3.out.rest, HH3.out.gsz, fun _ => rfl⟩
        obtain ⟨ce', hfx, hce', hOwe⟩ := HH3.out.ctx W2 ga3 _ [] _ _ _ hga3 hg4 (by rw [hsx.2.2, PG.out.2.2]) ⟨_, _, _, _, _, _, _, _, _, _, _, _, rfl⟩ hsx.1 (fun b hb hne => (hk4.block b (.inr ⟨List.mem_append_left _ hb, hne⟩)).trans (HSK.out.block b hne)) hgg3 (exp_owe (w := W2) (x := e) (by unfold maxLen; omega) hn1 hn2 hn3)
        obtain ⟨k', s', n', o5, n5, c5, o6, n6, c6, o7, n7, c7, rfl⟩ := hfx
        obtain ⟨⟨k1, k2, k3, k4, hbox⟩, htx, hXC, hMC, hC0, hM0⟩ := hm4.ptrs
        obtain ⟨hgC, hgM⟩ := hXC g hgX2
        have t8 := cell_of hbox 8
        simp only [ecv, List.getElem?_toArray, List.getElem?_cons_succ, List.getElem?_cons_zero] at t8
        have m0 := cell_of hga3 p
        rw [hrest3 p (by omega), HQ.out.1] at m0
        have m2 := cell_of hga3 (p + 2)
        have m3 := cell_of hga3 (p + 3)
        have m4 := cell_of hga3 (p + 4)
        have m5 := cell_of hga3 (p + 5)
        have m6 := cell_of hga3 (p + 6)
        have m7 := cell_of hga3 (p + 7)
        rw [show ga3[p + 2]? = _ from hce' 0 _ rfl] at m2
        rw [show ga3[p + 3]? = _ from hce' 1 _ rfl] at m3
        rw [show ga3[p + 4]? = _ from hce' 2 _ rfl] at m4
        rw [show ga3[p + 5]? = _ from hce' 3 _ rfl] at m5
        rw [show ga3[p + 6]? = _ from hce' 4 _ rfl] at m6
        rw [show ga3[p + 7]? = _ from hce' 5 _ rfl] at m7
        have s8 := kpt_cell (K := fun b => b = C ∨ b = g) (.inl rfl) t8
        have s0 := kpt_cell (K := fun b => b = C ∨ b = g) (.inr rfl) m0
        have s2 := kpt_cell (K := fun b => b = C ∨ b = g) (.inr rfl) m2
        have s3 := kpt_cell (K := fun b => b = C ∨ b = g) (.inr rfl) m3
        have s4 := kpt_cell (K := fun b => b = C ∨ b = g) (.inr rfl) m4
        have s5 := kpt_cell (K := fun b => b = C ∨ b = g) (.inr rfl) m5
        have s6 := kpt_cell (K := fun b => b = C ∨ b = g) (.inr rfl) m6
        have s7 := kpt_cell (K := fun b => b = C ∨ b = g) (.inr rfl) m7
        have hne0 : Nonempty (KptW (fun b => b = C ∨ b = g) W2) := kpt_nonempty _ _
        have HM4 := hide hm4
        have HG3 := hide hga3
        have HR3 := hide hrest3
        have HOWE := hide hOwe
        have HXC := hide hXC
        have HTX := hide htx
        have HBOX := hide hbox
        have HK4 := hide hk4
        have HWT : Hid (wtP (F1 ++ (FD ++ F2) ++ F3) ≤ (wts (h + 1)).ex e + lw (wts (h + 1)).de x.ds) := by
          have h9 : (wts (h + 1)).ex e = e.s.size + lw (wts h).ex e.l + lw (wts h).de e.ds + lw (wts h).al e.al := rfl
          have a1 := hn1.wt
          have a2 := hn2.wt
          have a3 := hn3.wt
          simp only [wtP_app]
          show _ ≤ _
          have b1 : wtP F1 = lw (wts h).ex e.l := a1
          have b2 : wtP F2 = lw (wts h).de e.ds := a2
          have b3 : wtP F3 = lw (wts h).al e.al := a3
          omega
        clear hm4 hga3 hrest3 hOwe hXC htx hbox hk4 t8 m0 m2 m3 m4 m5 m6 m7 x0 x1 x2 x3 x4 x5 z0 z1 z2 z3 z4 z5 f0 f1 f2 f3 f4 f5 hsx hg4 hkg hgg3 hn1 hn2 hn3 HEX
        go_upto_region 10 with fail
        refine wp_region_last (S := fun w' => ∃ q : KptW (fun b => b = C ∨ b = g) W2, w' = q.w) [([0, 1, 2, 3, 4, 5, 6, 7, 8, 10, 11, 12, 13], 9)] ([14, 15], 16) 18 (by kernel_rfl) (by kernel_rfl) (by kernel_rfl) (by kernel_rfl) ⟨⟨_, kpt_drew _ W2 1⟩, rfl⟩ ?_
        simp only [wpSchL, pickO, consO, List.getElem?_toArray, List.getElem?_cons_succ, List.getElem?_cons_zero]
        repeat (first | go_big_quiet_skip | (go_big_quiet_want; go_big_quiet_op; go_big_quiet_on))
        refine wpQuiet_nil ?_
        go_wp2_with fail
        refine (of_any M x.s (W2.drewN 1) hs (HTX.out.keep rfl)).mono ?_
        rintro r U ⟨rfl, htU, hvU⟩
        have hmU := (HM4.out.drewN 1).texts htU hvU
        have hgU : U.heap[g]? = some (.cells ga3 T (0, 0)) := (hvU.block g ⟨heap_lt HG3.out, hgM⟩).trans HG3.out
        have hKU : Keeps (fun b => b = C ∨ b = g) W2 U := ⟨hvU.os, hvU.tape, hvU.output, hvU.size, fun b hb => by
          rcases hb with rfl | rfl
          · exact hvU.block b ⟨heap_lt HBOX.out, fun e => hMC e.symm⟩
          · exact hvU.block b ⟨heap_lt HG3.out, hgM⟩⟩
        go_wp2
        refine ⟨⟨⟨U, hKU⟩, rfl⟩, ?_⟩
        repeat (first | go_big_quiet_skip | (go_big_quiet_want; go_big_quiet_op; go_big_quiet_on))
        refine wpQuiet_nil ?_
        have hp83 : p + 8 < ga3.size := by rw [hsz3]; exact hp8
        have u0 := cell_of hgU p
        have v0 := frozen_of hgU p
        have u1 := cell_of hgU (p + 1)
        have v1 := frozen_of hgU (p + 1)
        have u2 := cell_of hgU (p + 2)
        have v2 := frozen_of hgU (p + 2)
        have u3 := cell_of hgU (p + 3)
        have v3 := frozen_of hgU (p + 3)
        have u4 := cell_of hgU (p + 4)
        have v4 := frozen_of hgU (p + 4)
        have u5 := cell_of hgU (p + 5)
        have v5 := frozen_of hgU (p + 5)
        have u6 := cell_of hgU (p + 6)
        have v6 := frozen_of hgU (p + 6)
        have u7 := cell_of hgU (p + 7)
        have v7 := frozen_of hgU (p + 7)
        have u8 := cell_of hgU (p + 8)
        have v8 := frozen_of hgU (p + 8)
        rw [Array.getElem?_eq_getElem (by omega)] at u0 u1 u2 u3 u4 u5 u6 u7 u8
        have CA := set9_at (p := p) hgU (.string x.s) (.slice none 0 0) (.int .i64 k') (.string s') (.int .i64 n') (.slice o5 n5 c5) (.slice o6 n6 c6) (.slice o7 n7 c7) (.slice none 0 0)
        have hks := set9_keeps U g p (.string x.s) (.slice none 0 0) (.int .i64 k') (.string s') (.int .i64 n') (.slice o5 n5 c5) (.slice o6 n6 c6) (.slice o7 n7 c7) (.slice none 0 0)
        obtain ⟨w1, w2, w3⟩ := put9_get hp83 (.string x.s) (.slice none 0 0) (.int .i64 k') (.string s') (.int .i64 n') (.slice o5 n5 c5) (.slice o6 n6 c6) (.slice o7 n7 c7) (.slice none 0 0)
        have hm9 := hmU.1.set9 hgX2 p (.string x.s) (.slice none 0 0) (.int .i64 k') (.string s') (.int .i64 n') (.slice o5 n5 c5) (.slice o6 n6 c6) (.slice o7 n7 c7) (.slice none 0 0)
        have hnd := HM3.out.x_nodup
        have hmF := (hm9.perm (X' := b0 :: (Y2 ++ X)) List.perm_middle).drop
        have hpd : ((F1 ++ F2 ++ F3).map Pe.pd ++ FD.map Pe.pd).Perm ((F1 ++ (FD ++ F2) ++ F3).map Pe.pd) := by
          rw [← List.map_append]
          exact (perm4 F1 F2 F3 FD).map _
        have hOF := (HOWE.out.keep (w2 := set9 U g p (.string x.s) (.slice none 0 0) (.int .i64 k') (.string s') (.int .i64 n') (.slice o5 n5 c5) (.slice o6 n6 c6) (.slice o7 n7 c7) (.slice none 0 0)) fun b hb => by
          rw [List.append_nil] at hb
          have hbx : b ∈ Y2 ++ (b0 :: X) := List.mem_append_left _ hb
          exact (hks.block b fun e9 => hgY2 (by rw [← e9]; exact hb)).trans (hvU.block b ⟨(HM4.out.x_lt hbx).2, (HXC.out b hbx).2⟩)).perm hpd (List.Perm.refl _)
        have hkF : Keeps (fun b => b < w0.heap.size ∨ (b ∈ X ∧ b ≠ g)) w (set9 U g p (.string x.s) (.slice none 0 0) (.int .i64 k') (.string s') (.int .i64 n') (.slice o5 n5 c5) (.slice o6 n6 c6) (.slice o7 n7 c7) (.slice none 0 0)) := by
          have g1 := HB1.out.size
          refine ⟨hks.os.trans (hvU.os.trans (HK4.out.os.trans (HSK.out.os.trans (HK3.out.os.trans HB1.out.os)))), hks.tape.trans (hvU.tape.trans (HK4.out.tape.trans (HSK.out.tape.trans (HK3.out.tape.trans HB1.out.tape)))), hks.output.trans (hvU.output.trans (HK4.out.output.trans (HSK.out.output.trans (HK3.out.output.trans HB1.out.output)))), Nat.le_trans HB1.out.size (Nat.le_trans HK3.out.size (Nat.le_trans HSK.out.size (Nat.le_trans HK4.out.size (Nat.le_trans hvU.size hks.size)))), fun b hb => ?_⟩
          have hbw : b < w.heap.size := by
            rcases hb with hb | hb
            · have := HM.out.size
              omega
            · exact (HM.out.x_lt hb.1).2
          have hbg : b ≠ g := by
            rcases hb with hb | hb
            · have := (HM.out.x_lt hg).1
              omega
            · exact hb.2
          have hbx : b < w0.heap.size ∨ b ∈ Y2 ++ (b0 :: X) := hb.imp id fun h9 => List.mem_append_right _ (List.mem_cons_of_mem _ h9.1)
          have hbh : b ≠ hg2 := by
            rcases HH3.out.hin with ⟨e1, -, -, -⟩ | ⟨e1, -, -⟩
            · rw [e1]; exact hbg
            · rcases hb with hb | hb
              · have := (HM3.out.x_lt hin2).1
                omega
              · exact fun e9 => (List.nodup_append.1 hnd).2.2 hg2 e1 b (List.mem_cons_of_mem _ hb.1) e9.symm
          have hb4 : b < W2.heap.size ∧ b ≠ M := by
            rcases hbx with hb9 | hb9
            · have := HM4.out.size
              exact ⟨by omega, by omega⟩
            · exact ⟨(HM4.out.x_lt hb9).2, (HXC.out b hb9).2⟩
          exact (hks.block b hbg).trans ((hvU.block b hb4).trans ((HK4.out.block b (hbx.imp id fun h9 => ⟨h9, hbh⟩)).trans ((HSK.out.block b hbh).trans ((HK3.out.block b (hb.imp id fun h9 => ⟨List.mem_cons_of_mem _ h9.1, h9.2⟩)).trans (HB1.out.block b hbw)))))
        have HFIN := hide (And.intro hmF (And.intro CA (And.intro hkF hOF)))
        have HW := hide (And.intro w1 (And.intro w2 w3))
        clear htU hvU hKU hmU hgU CA hks hm9 hmF hOF hkF w1 w2 w3 s0 s2 s3 s4 s5 s6 s7 s8 hne0
        go_wp2
        go_end0
        refine ⟨rfl, Y2, [.int .i64 k', .string s', .int .i64 n', .slice o5 n5 c5, .slice o6 n6 c6, .slice o7 n7 c7], _, F1, FD ++ F2, F3, rfl, ?_, HFIN.out.2.1, HW.out.1, fun k hk => (HW.out.2.1 k hk).trans (HR3.out k (by omega)), HW.out.2.2.trans hsz3, HFIN.out.2.2.1, ?_, HWT.out⟩
        · rw [← List.append_assoc]
          exact HFIN.out.1
        · have h9 := HFIN.out.2.2.2
          rw [List.append_nil] at h9
          exact h9
end Go.Proofs.Ytgeckgdmkjddpaa.Cp
