/- The program's VarsOf. -/
import Derived.Test.YtncgbdbkoeiffamOI
import Derived.Maps.AppendAt
import Derived.Sort.CutIn
namespace Go.Proofs.Ytncgbdbkoeiffam.Vo
open Go.RowKit Go.Shelf
attribute [local go_sem] Oper.semAt_some
set_option linter.unusedVariables false
set_option linter.unusedSimpArgs false

theorem T.pos {K : Nat → Prop} {w : World} {e : Ent} (h : T K w e) : 0 < e.n := by
  obtain ⟨-, -, -, h1, x, cs, l1, c1, r1, n1, f1⟩ := h
  cases h1 with
  | zero => exact r1.elim
  | succ h => rw [n1]; show 0 < 1 + _; omega
theorem sum_len : ∀ (S : List Ent), (∀ e ∈ S, 0 < e.n) → S.length ≤ (S.map Ent.n).sum
  | [], _ => Nat.le_refl _
  | e :: r, h => by
    have h1 := h e (by simp)
    have h2 := sum_len r fun d hd => h d (by simp [hd])
    simp only [List.length_cons, List.map_cons, List.sum_cons]
    omega
set_option maxRecDepth 100000 in
set_option maxHeartbeats 4000000 in
theorem implVars_any {K : Nat → Prop} {h : Nat} (x : Tr) (o1 : Option Addr) (c1 : Nat) (w : World) (hr : tyR K w h x [.int .i64 x.k, .string x.s, .int .i64 x.n, .slice o1 x.l.length c1]) (hK : ∀ b, K b → ∃ c e, w.heap[b]? = some (.cells c e (0, 0))) (hn : nz h x ≤ 1048577) :
    Calls Try.prog 17 #[.agg #[.int .i64 x.k, .string x.s, .int .i64 x.n, .slice o1 x.l.length c1]] w fun e w' => ∃ v, e = .returned v ∧ w'.ownsRow w.heap.size 3 1 v ((vz h [] x).map intV).length ((vz h [] x).map intV) ∧ Below w.heap.size w w' := by
  have hmm := @run_makeMap Try.prog
  refine (callsIn_wide (n := 3)).1 ?_
  refine callsIn_of_wp_marks Try.func17 rfl trivial ?_ rfl
  simp only [Try.ntmps17, List.size_toArray, List.length_cons, List.length_nil, Nat.reduceAdd, Nat.reduceSub, Array.replicate_succ, Array.replicate_zero, List.push_toArray, List.append_toArray, List.nil_append, List.cons_append]
  gi_wp2
  clear hmm
  obtain ⟨w1, hw1⟩ : ∃ w1, w.alloc (.cells #[.int .i64 x.k, .string x.s, .int .i64 x.n, .slice o1 x.l.length c1] 29) = w1 := ⟨_, rfl⟩
  have hst := st_start hw1 hr hn
  have HBW : Hid (Below w.heap.size w w1) := by rw [← hw1]; exact (Below.refl _ w).alloc (Nat.le_refl _) _
  have hK1 : Hid (∀ b, K b → ∃ c e, w1.heap[b]? = some (.cells c e (0, 0))) := fun b hb => by
    obtain ⟨c, e, h9⟩ := hK b hb
    exact ⟨c, e, (HBW.out.block b (Array.getElem?_eq_some_iff.1 h9).1).trans h9⟩
  rw [hw1]
  refine wpIn_loop (Inv K h x o1 c1 w w1) (fun _ W => Classical.epsilon (fun n => Wt K w1 (w.heap.size + 1 + 1 + 1 + 1 + 1) W n)) ?_ ?_
  · exact ⟨_, _, _, _, _, _, _, _, _, _, _, _, _, _, _, _, _, _, _, _, _, _, _, _, _, _, _, _, _, _, _, _, _, _, _, _, _, _, _, _, _, _, _, _, _, _, _, _, _, _, _, _, _, _, _, _, _, _, _, _, _, _, _, rfl, hst, trivial⟩
  clear hst
  rintro a W ⟨v3, u7, u8, u13, u14, u15, u16, u17, u18, u19, u20, u21, u22, u23, u24, u25, u26, u27, u28, u29, u30, u31, u32, u33, u34, u35, u36, u37, u38, u39, u40, u41, u42, u43, u44, u45, u46, u47, u48, u49, u50, u51, u52, u53, u54, u55, u56, u57, u58, u59, u60, u61, u62, u63, u64, u65, u66, u67, ds, S, nums, ks, vl, rfl, hst, hmk⟩
  obtain ⟨hB, hb6, hvl, hv3, hm4, hm5, hT, hSeen, hrun, hsum⟩ := id hst
  have HST := hide hst
  have HMK := hide hmk
  have HRUN := hide hrun
  have HT := hide hT
  have HSEEN := hide hSeen
  have HM4 := hide hm4
  have HM5 := hide hm5
  have HV3 := hide hv3
  have HB := hide hB
  have HB6 := hide hb6
  clear hst hmk hrun hT hSeen hm4 hm5 hv3 hB
  have x6 := cell_of hb6 0
  have f6 := frozen_of hb6 0
  simp only [List.getElem?_toArray, List.getElem?_cons_zero] at x6
  rcases List.eq_nil_or_concat S with rfl | ⟨S0, d, hSS⟩
  · obtain ⟨oo, cap, rfl, -, -⟩ := hvl.form
    simp only [List.map_nil, List.length_nil] at x6
    clear hvl hb6
    gi_wp2
    have hR0 : nums = vz h [] x := HRUN.out
    refine leaves_marks (B := w1.heap.size) (fun W' => ORow 3 w1.heap.size W' v3 (nums.map intV) ∧ Below w1.heap.size w1 W') (fun W' D hq hD hk => ⟨hq.1.keep fun g hg => ?_, hq.2.trans (belowK_b (w := w1) (Nat.le_refl _) W' D _ _ hD hk rfl rfl)⟩) (fun W' hq => ⟨_, results_tmp rfl _ _ _, ⟨v3, rfl, ?_, ?_⟩⟩) ds W HMK.out ⟨HV3.out, HB.out⟩
    · obtain ⟨-, cur, hc⟩ := hq.1.own hg
      have hne : g ≠ D := fun e => by rw [e, hk] at hc; cases hc
      simp [World.putObj, Ne.symm hne]
    · rw [← hR0]
      exact hq.1.base HBW.out.size
    · exact HBW.out.trans (hq.2.mono HBW.out.size)
  · rw [List.concat_eq_append] at hSS
    subst hSS
    obtain ⟨⟨db, dof, dp⟩, dn, df⟩ := d
    have hTd := HT.out ⟨⟨db, dof, dp⟩, dn, df⟩ (by simp)
    obtain rfl : dp = none := by have := hTd.1; simpa using this
    have HTD := hide hTd
    obtain ⟨k, s, n, o, len, c, es, hcs, hlen, hes, hnn, hff, hTe, hrow⟩ := hTd.parts hK1.out
    rw [List.map_append] at hvl
    obtain ⟨g, cap, rfl, hcp, hcm, hlast, hpop⟩ := hvl.last
    rw [List.length_map] at hcp hlast hpop x6 HB6 hvl
    have hgo := hvl.own (g := g) rfl
    have HPOP := hide hpop
    have HVL := hide hvl
    have HGO := hide hgo
    have hsum' : nums.length + ((S0.map Ent.n).sum + dn) ≤ 1048577 := by simpa [List.sum_append] using hsum
    have HS0 : Hid (S0.length ≤ (S0.map Ent.n).sum) := sum_len S0 fun e he => (HT.out e (by simp [he])).pos
    clear hTd hvl hpop hgo hb6
    have hcm' : cap ≤ 9223372036854775807 := hcm
    generalize hL : S0.length = L at hcp hlast HPOP x6 HS0 HB6 HVL
    have hw1' : IntKind.i64.wrap (((L + 1 : Nat) : Int) - 1) = L := by rw [IntKind.wrap_i64]; omega
    have hw2 : (L : Int) ≤ cap := by omega
    unfold ptrV at hlast
    have hlt6 : w.heap.size + 1 + 1 + 1 + 1 + 1 < W.heap.size := (Array.getElem?_eq_some_iff.1 HB6.out).1
    have hme : MemL w1 (w.heap.size + 1 + 1 + 1 + 1 + 1) (w.heap.size + 1 + 1) (w.heap.size + 1 + 1 + 1) v3 W (S0.map (fun e => ptrV e.a) ++ [ptrV ⟨db, dof, none⟩]) nums ks (.slice (some ⟨g, 0, none⟩) (L + 1) cap) := ⟨HB.out, HB6.out, HVL.out, HV3.out, HM4.out, HM5.out⟩
    have hz1 : w1.heap.size = w.heap.size + 1 := by rw [← hw1]; simp
    have hme1 := hme.pop (by omega) (.cells #[.pointer (some ⟨db, dof, none⟩)] 53) HPOP.out
    have hmk1 := mks_pop (vl' := .slice (some ⟨g, 0, none⟩) L cap) HMK.out hme.box (.cells #[.pointer (some ⟨db, dof, none⟩)] 53)
    have hbx7 : ((W.setCell ⟨w.heap.size + 1 + 1 + 1 + 1 + 1, 0, none⟩ (.slice (some ⟨g, 0, none⟩) L cap)).alloc (.cells #[.pointer (some ⟨db, dof, none⟩)] 53)).heap[W.heap.size]? = some (.cells #[.pointer (some ⟨db, dof, none⟩)] 53 (0, 0)) := by
      have h9 := heap_alloc_new (W.setCell ⟨w.heap.size + 1 + 1 + 1 + 1 + 1, 0, none⟩ (.slice (some ⟨g, 0, none⟩) L cap)) (.cells #[.pointer (some ⟨db, dof, none⟩)] 53)
      simpa using h9
    have hpl : ∀ b ∈ ks, PlainAt ((W.setCell ⟨w.heap.size + 1 + 1 + 1 + 1 + 1, 0, none⟩ (.slice (some ⟨g, 0, none⟩) L cap)).alloc (.cells #[.pointer (some ⟨db, dof, none⟩)] 53)) b := fun b hb => by
      obtain ⟨e, he, rfl, -⟩ := HSEEN.out b hb
      exact plain_later he.2.2.1 hme1.below (Nat.le_refl _)
    have HC := hide (callsIn_wide (n := 2) |>.2 (isFirst_ptr (w.heap.size + 1 + 1 + 1) ⟨db, dof, none⟩ ks _ hme1.seen (plain_later HTD.out.2.2.1 hme1.below (Nat.le_refl _)) hpl))
    have HME1 := hide hme1
    have HMK1 := hide hmk1
    have HX7 := hide hbx7
    have HCS := hide hcs
    have HTE := hide hTe
    have HFF := hide hff
    have HROW := hide hrow
    clear hme hme1 hmk1 hbx7 hpl hcs hTe hff hrow
    gi_wp2_with fail
    refine ⟨trivial, ?_⟩
    refine HC.out.mono ?_
    rintro e V ⟨rfl, hs5, ho5⟩
    obtain ⟨es5, c5, hp5, -⟩ := HME1.out.seen
    have HME2 := hide (HME1.out.set5 ho5 (by omega) (by omega) hs5)
    have HMK2 := hide (mks_oth HMK1.out ho5 hp5)
    have HX8 := hide ((ho5.block W.heap.size ⟨(Array.getElem?_eq_some_iff.1 HX7.out).1, fun e => by have := HX7.out; rw [e, hp5] at this; cases this⟩).trans HX7.out)
    clear hs5 ho5 hp5 HC x6 f6
    by_cases hks : (⟨db, dof, none⟩ : Addr) ∈ ks
    · rw [decide_eq_true hks]
      have HKS := hide hks
      clear hks
      gi_wp2
      obtain ⟨r1, r2⟩ := seen_again HSEEN.out HTD.out HKS.out
      have h2 := HME2.out
      rw [show addK ks (⟨db, dof, none⟩ : Addr) = ks from if_pos HKS.out] at h2
      have hstN : StL K w1 (vz h [] x) (w.heap.size + 1 + 1 + 1 + 1 + 1) (w.heap.size + 1 + 1) (w.heap.size + 1 + 1 + 1) v3 V S0 nums ks (.slice (some ⟨g, 0, none⟩) L cap) := ⟨h2.below, h2.box, h2.left, h2.row, h2.told, h2.seen, fun e he => HT.out e (by simp [he]), r2, r1.symm.trans HRUN.out, by omega⟩
      refine ⟨⟨_, _, _, _, _, _, _, _, _, _, _, _, _, _, _, _, _, _, _, _, _, _, _, _, _, _, _, _, _, _, _, _, _, _, _, _, _, _, _, _, _, _, _, _, _, _, _, _, _, _, _, _, _, _, _, _, _, _, _, _, _, _, _, rfl, hstN, HMK2.out⟩, ?_⟩
      have hp := HTD.out.pos
      rw [wt_eps hstN.wt, wt_eps HST.out.wt]
      simp [List.sum_append]
      exact hp
    · rw [decide_eq_false hks]
      have HKS := hide hks
      clear hks
      have c0 := HCS.out 0 _ rfl
      have c2 := HCS.out 2 _ rfl
      have c3 := HCS.out 3 _ rfl
      simp only [Nat.add_zero] at c0
      have hdb : db < w1.heap.size := HTD.out.2.1
      have d0 := (HME2.out.below.cell (p := ⟨db, dof, none⟩) hdb).trans c0
      have d2 := (HME2.out.below.cell (p := ⟨db, dof + 2, none⟩) hdb).trans c2
      have d3 := (HME2.out.below.cell (p := ⟨db, dof + 3, none⟩) hdb).trans c3
      have y7 := cell_of HX8.out 0
      simp only [List.getElem?_toArray, List.getElem?_cons_zero] at y7
      clear c0 c2 c3
      gi_upto_region 8 with fail
      gi_cut [43] from 100 (fun t43 W' => ∃ q : Bool, t43 = .bool q ∧ Mid w1 (w.heap.size + 1 + 1 + 1 + 1 + 1) (w.heap.size + 1 + 1) (w.heap.size + 1 + 1 + 1) v3 (.slice (some ⟨g, 0, none⟩) L cap) (S0.map fun e => ptrV e.a) nums (addK ks ⟨db, dof, none⟩) k n ds W.heap.size (.cells #[.pointer (some ⟨db, dof, none⟩)] 53 (0, 0)) q W')
      case first =>
        by_cases hk5 : k = 5
        · subst hk5
          have HC4 := hide (callsIn_wide (n := 2) |>.2 (isFirst_int (w.heap.size + 1 + 1) n nums V HME2.out.told))
          gi_wp2_with fail
          refine ⟨trivial, ?_⟩
          refine HC4.out.mono ?_
          rintro e V2 ⟨rfl, hs4, ho4⟩
          obtain ⟨es4, c4, hp4, -⟩ := HME2.out.told
          obtain ⟨q1, q2, q3, q4, q5⟩ := HME2.out.set4 (v3' := v3) (nums' := nums) ho4 (by omega) (by omega)
          have hMK3 := mks_oth HMK2.out ho4 hp4
          have hX9 := (ho4.block W.heap.size ⟨(Array.getElem?_eq_some_iff.1 HX8.out).1, fun e => by have := HX8.out; rw [e, hp4] at this; cases this⟩).trans HX8.out
          by_cases hnn : n ∈ nums
          · rw [decide_eq_true hnn]
            have HF : Hid (Mid w1 (w.heap.size + 1 + 1 + 1 + 1 + 1) (w.heap.size + 1 + 1) (w.heap.size + 1 + 1 + 1) v3 (.slice (some ⟨g, 0, none⟩) L cap) (S0.map fun e => ptrV e.a) nums (addK ks ⟨db, dof, none⟩) 5 n ds W.heap.size (.cells #[.pointer (some ⟨db, dof, none⟩)] 53 (0, 0)) false V2) := ⟨q1, q2, q3, q4, q5, hMK3, hX9, fun h9 => by simp at h9, fun _ => ⟨by rw [show addK nums n = nums from if_pos hnn] at hs4; exact hs4, if_neg fun h9 => h9.2 hnn⟩⟩
            clear hs4 ho4 hp4 HC4 d0 d2 d3 y7 q1 q2 q3 q4 q5 hMK3 hX9 hnn
            gi_wp2
            gi_meet
            case rel => exact ⟨false, rfl, HF.out⟩
          · rw [decide_eq_false hnn]
            have HF : Hid (Mid w1 (w.heap.size + 1 + 1 + 1 + 1 + 1) (w.heap.size + 1 + 1) (w.heap.size + 1 + 1 + 1) v3 (.slice (some ⟨g, 0, none⟩) L cap) (S0.map fun e => ptrV e.a) nums (addK ks ⟨db, dof, none⟩) 5 n ds W.heap.size (.cells #[.pointer (some ⟨db, dof, none⟩)] 53 (0, 0)) true V2) := ⟨q1, q2, q3, q4, q5, hMK3, hX9, fun _ => ⟨by rw [show addK nums n = nums ++ [n] from if_neg hnn] at hs4; exact hs4, if_pos ⟨rfl, hnn⟩⟩, fun h9 => by simp at h9⟩
            clear hs4 ho4 hp4 HC4 d0 d2 d3 y7 q1 q2 q3 q4 q5 hMK3 hX9 hnn
            gi_wp2
            gi_meet
            case rel => exact ⟨true, rfl, HF.out⟩
        · have hkb : (k == 5) = false := by simp [hk5]
          have HF : Hid (Mid w1 (w.heap.size + 1 + 1 + 1 + 1 + 1) (w.heap.size + 1 + 1) (w.heap.size + 1 + 1 + 1) v3 (.slice (some ⟨g, 0, none⟩) L cap) (S0.map fun e => ptrV e.a) nums (addK ks ⟨db, dof, none⟩) k n ds W.heap.size (.cells #[.pointer (some ⟨db, dof, none⟩)] 53 (0, 0)) false V) := ⟨HME2.out.below, HME2.out.box, HME2.out.left, HME2.out.row, HME2.out.seen, HMK2.out, HX8.out, fun h9 => by simp at h9, fun _ => ⟨HME2.out.told, if_neg fun h9 => hk5 h9.1⟩⟩
          clear hk5
          gi_wp2_with fail
          refine ⟨trivial, ?_⟩
          gi_wp2
          gi_meet
          case rel => exact ⟨false, rfl, HF.out⟩
      case rest =>
        obtain ⟨q, rfl, hmid⟩ := hcut
        have HMID := hide hmid
        clear hmid d0 d2 d3 y7
        gi_upto_if 43 with fail
        gi_cut [3] from 100 (fun t3 W' => Pre w1 (w.heap.size + 1 + 1 + 1 + 1 + 1) (w.heap.size + 1 + 1) (w.heap.size + 1 + 1 + 1) (.slice (some ⟨g, 0, none⟩) L cap) (S0.map fun e => ptrV e.a) nums (addK ks ⟨db, dof, none⟩) k n ds W.heap.size (.cells #[.pointer (some ⟨db, dof, none⟩)] 53 (0, 0)) t3 W')
        case first =>
          obtain ⟨q1, q2, q3, q4, q5, hMK3, hX9, hqt, hqf⟩ := HMID.out
          cases q with
          | false =>
            obtain ⟨hs4, hN⟩ := hqf rfl
            have HF : Hid (Pre w1 (w.heap.size + 1 + 1 + 1 + 1 + 1) (w.heap.size + 1 + 1) (w.heap.size + 1 + 1 + 1) (.slice (some ⟨g, 0, none⟩) L cap) (S0.map fun e => ptrV e.a) nums (addK ks ⟨db, dof, none⟩) k n ds W.heap.size (.cells #[.pointer (some ⟨db, dof, none⟩)] 53 (0, 0)) v3 wc) := ⟨by rw [hN]; exact ⟨q1, q2, q3, q4, hs4, q5⟩, hMK3, hX9⟩
            clear q1 q2 q3 q4 q5 hMK3 hX9 hqt hqf hs4 hN
            gi_wp2
            gi_meet
            case rel => exact HF.out
          | true =>
            obtain ⟨hs4, hN⟩ := hqt rfl
            obtain ⟨o9, c9, V3, hrn, hme3, ho3⟩ := num_run q1 q2 q3 q4 q5 n hs4 (by omega)
            have hX10 := (ho3.block W.heap.size ⟨(Array.getElem?_eq_some_iff.1 hX9).1, fun e => by
              obtain ⟨-, cur, hc⟩ := q4.own e
              rw [hX9] at hc
              simp only [Option.some.injEq, Obj.cells.injEq] at hc
              exact int_ne2 hc.2.1.symm⟩).trans hX9
            have HF : Hid (Pre w1 (w.heap.size + 1 + 1 + 1 + 1 + 1) (w.heap.size + 1 + 1) (w.heap.size + 1 + 1 + 1) (.slice (some ⟨g, 0, none⟩) L cap) (S0.map fun e => ptrV e.a) nums (addK ks ⟨db, dof, none⟩) k n ds W.heap.size (.cells #[.pointer (some ⟨db, dof, none⟩)] 53 (0, 0)) (.slice o9 (nums.length + 1) c9) V3) := ⟨by rw [hN]; exact hme3, mks_row hMK3 ho3 q4, hX10⟩
            have HRN := hide hrn
            have y7 := cell_of hX9 0
            simp only [List.getElem?_toArray, List.getElem?_cons_zero] at y7
            have e2 := (q1.cell (p := ⟨db, dof + 2, none⟩) hdb).trans (HCS.out 2 _ rfl)
            clear q1 q2 q3 q4 q5 hMK3 hX9 hqt hqf hs4 hN hrn hme3 ho3 hX10
            gi_wp2_with (gi_at_builtin; refine app_known _ rfl (.tmp 44) (.tmp 49) 38 rfl v3 (.slice (some ⟨wc.heap.size, 0, none⟩) 1 1) (.slice o9 (nums.length + 1) c9) V3 (by simp [Act.eval, Act.put]) (by simp [Act.eval, Act.put]) HRN.out ?_)
            gi_meet
            case rel => exact HF.out
        case rest =>
          obtain ⟨hmx, hmkx, hx7x⟩ := hcut
          have HMX := hide hmx
          have HMKX := hide hmkx
          have HX7X := hide hx7x
          clear hmx hmkx hx7x HME2 HMK2 HX8 HME1 HMK1 HX7
          have y7 := cell_of HX7X.out 0
          simp only [List.getElem?_toArray, List.getElem?_cons_zero] at y7
          have d3 := (HMX.out.below.cell (p := ⟨db, dof + 3, none⟩) hdb).trans (HCS.out 3 _ rfl)
          gi_wp2_with fail
          have HCB := hide (callsIn_wide (n := 2) |>.2 (back_any o len c wc))
          refine ⟨trivial, ?_⟩
          refine HCB.out.mono ?_
          rintro e X ⟨rfl, rfl⟩
          clear HCB
          gi_wp2_with fail
          obtain ⟨Y, hY⟩ : ∃ Y, wc.alloc (.cells #[.slice o len c] 27) = Y := ⟨_, rfl⟩
          rw [hY]
          have hzY : Y.heap.size = wc.heap.size + 1 := by rw [← hY]; simp
          have hAY : Below wc.heap.size wc Y := by rw [← hY]; exact (Below.refl _ wc).alloc (Nat.le_refl _) _
          have hBs : Y.heap[wc.heap.size]? = some (.cells #[.slice o len c] 27 (0, 0)) := by rw [← hY]; exact heap_alloc_new wc _
          have hMY := HMX.out.later hAY
          have hMKY := HMKX.out.later hAY
          have hX7 := (hAY.block _ (Array.getElem?_eq_some_iff.1 HX7X.out).1).trans HX7X.out
          have hgY := hMY.left.own (g := g) rfl
          have hsY := hMY.below.size
          have hb6Y : w.heap.size + 1 + 1 + 1 + 1 + 1 < Y.heap.size := (Array.getElem?_eq_some_iff.1 hMY.box).1
          obtain ⟨b, off, cc, hr4, hj, hob⟩ := row4_of (KY := fun k => k < Y.heap.size ∧ k ≠ w.heap.size + 1 + 1 + 1 + 1 + 1 ∧ k ≠ g) hMY.below (fun b hb => ⟨by omega, by omega, by have := hgY.1; omega⟩) HTE.out hes HROW.out
          have hg6 : g ≠ w.heap.size + 1 + 1 + 1 + 1 + 1 := fun e => by
            obtain ⟨-, cur, hc⟩ := hgY
            rw [e, hMY.box] at hc
            simp only [Option.some.injEq, Obj.cells.injEq] at hc
            exact ptr_ne hc.2.1.symm
          have hgV : g ≠ wc.heap.size := fun e => by
            have := (HMX.out.left.own (g := g) rfl).2.choose_spec
            have := (Array.getElem?_eq_some_iff.1 this).1
            omega
          refine wpIn_rangeFunc_ownG rfl (by omega) (gf := 37) (lb := #[.pointer (some ⟨wc.heap.size, 0, none⟩)]) rfl trivial (enters_of Try.func37 (by kernel_rfl) rfl)
            (back_stops Fence.wide 2 trivial rfl (by omega) wc.heap.size len c o (fun k => k < Y.heap.size ∧ k ≠ w.heap.size + 1 + 1 + 1 + 1 + 1 ∧ k ≠ g) cc hlen Y ⟨by omega, by have := (Array.getElem?_eq_some_iff.1 HMX.out.box).1; omega, fun e => hgV e.symm⟩ (fun k hk => hk.1) (by rw [cell_of hBs]; rfl) hr4)
            (fun h1 h2 => h1.trans h2) (fun W' l ob ob' hl h9 hc hw => ⟨rfl, rfl, rfl, by simp [World.putObj], fun k hk => by simp [World.putObj, show l ≠ k from by omega]⟩) (Below.refl _ _) (fun _ => rfl)
            (RI w1 Y (fun k => k < Y.heap.size ∧ k ≠ w.heap.size + 1 + 1 + 1 + 1 + 1 ∧ k ≠ g) (w.heap.size + 1 + 1 + 1 + 1 + 1) g b off (S0.map fun e => ptrV e.a) len) (fun _ _ _ => False) (RI.own _ _ _ (fun k hk => hk.1) _ _ _ _ _ _) (fun _ _ _ _ _ hs _ _ => hs)
            ⟨_, hMY.box, by simpa using hMY.left, Keeps.refl _ _, fun g' e => .inl (by cases e; rfl)⟩ ?_ ?assign ?body ?done ?stop
          case assign =>
            intro l x W K hK
            gi_wp2
            exact hK
          case stop =>
            rintro D c pre W _ _ h _
            exact h.elim
          case body =>
            rintro l pre ⟨⟨yi, y1, y2, y3, y4⟩, hyi⟩ W' ⟨vl, hb, hrow, hk, ho⟩ hpl
            have hyi' : yi < len := hyi
            obtain rfl : o = some ⟨b, off, none⟩ := hob (by omega)
            have hWY : W.heap.size < Y.heap.size := (Array.getElem?_eq_some_iff.1 hX7).1
            have hgW : g < W.heap.size := (Array.getElem?_eq_some_iff.1 HGO.out.2.choose_spec).1
            have hg1 := hgY.1
            have i6 := cell_of hb 0
            have j6 := frozen_of hb 0
            have i7 := cell_of ((hk.block W.heap.size ⟨hWY, by omega, by omega⟩).trans hX7) 0
            simp only [List.getElem?_toArray, List.getElem?_cons_zero] at i6 i7
            have hdk := hk.block db ⟨by omega, by omega, by omega⟩
            have i3 : W'.cell? ⟨db, dof + 3, none⟩ = some (.slice (some ⟨b, off, none⟩) len c) := (World.cell?_of_block (a := ⟨db, dof + 3, none⟩) hdk).trans ((hMY.below.cell (p := ⟨db, dof + 3, none⟩) hdb).trans (HCS.out 3 _ rfl))
            have hlenE : len ≤ (es.map Ent.n).sum := by rw [← hes]; exact sum_len es fun e he => (HTE.out e he).pos
            have hpsl : ((S0.map fun e => ptrV e.a) ++ pre.map fun x => ptrV ⟨b, off + x.1.1 * 4, none⟩).length ≤ 10000000 := by
              rw [List.length_append, List.length_map, List.length_map]
              have := HS0.out
              omega
            have hYW := hk.size
            have hlt9 : w.heap.size + 1 + 1 + 1 + 1 + 1 < W'.heap.size := by omega
            obtain ⟨ov, cv, V9, hrn, hrow9, ho9, hob9⟩ := put_run (W := W'.drew) (X := W'.drew.alloc (.cells #[.pointer (some ⟨b, off + yi * 4, none⟩)] 53)) (hrow.keep fun _ _ => rfl) (by show _ ≤ W'.heap.size; omega) ⟨b, off + yi * 4, none⟩ hpsl ((Below.refl _ W'.drew).alloc (Nat.le_refl _) _) (heap_alloc_new W'.drew _)
            have hb6V : vl.ownBlock ≠ some (w.heap.size + 1 + 1 + 1 + 1 + 1) := fun e => by
              obtain ⟨-, cur, hc⟩ := hrow.own e
              rw [hb] at hc
              simp only [Option.some.injEq, Obj.cells.injEq] at hc
              exact ptr_ne hc.2.1.symm
            have hb9 : V9.heap[w.heap.size + 1 + 1 + 1 + 1 + 1]? = some (.cells #[vl] 54 (0, 0)) := (ho9.block (w.heap.size + 1 + 1 + 1 + 1 + 1) ⟨by show _ < W'.heap.size; omega, hb6V⟩).trans hb
            have i9 := cell_of hb9 0
            have j9 := frozen_of hb9 0
            simp only [List.getElem?_toArray, List.getElem?_cons_zero] at i9
            obtain ⟨ol, cl, hvl, -, -⟩ := hrow.form
            have HRW := hide hrow9
            have HO9 := hide ho9
            have HOB9 := hide hob9
            have HBB := hide hb
            have HB9 := hide hb9
            have HKK := hide hk
            have HOO := hide ho
            have HRR := hide hrow
            have HRN : Hid ((Builtin.append_ #[54, 54] 54 #[vl, .slice (some ⟨W'.heap.size, 0, none⟩) 1 1]).run Try.prog (W'.drew.alloc (.cells #[.pointer (some ⟨b, off + yi * 4, none⟩)] 53)) = .ok (.slice ov (((S0.map fun e => ptrV e.a) ++ pre.map fun x => ptrV ⟨b, off + x.1.1 * 4, none⟩).length + 1) cv) V9) := hrn
            generalize ((S0.map fun e => ptrV e.a) ++ pre.map fun x => ptrV ⟨b, off + x.1.1 * 4, none⟩).length + 1 = N9 at HRN HRW HOB9
            have HLF : Hid (KeepsFrom Y.heap.size W' (V9.setCell ⟨w.heap.size + 1 + 1 + 1 + 1 + 1, 0, none⟩ (.slice ov N9 cv)) ∧ Keeps (fun k => k < Y.heap.size ∧ k ≠ w.heap.size + 1 + 1 + 1 + 1 + 1 ∧ k ≠ g) W' (V9.setCell ⟨w.heap.size + 1 + 1 + 1 + 1 + 1, 0, none⟩ (.slice ov N9 cv)) ∧ RI w1 Y (fun k => k < Y.heap.size ∧ k ≠ w.heap.size + 1 + 1 + 1 + 1 + 1 ∧ k ≠ g) (w.heap.size + 1 + 1 + 1 + 1 + 1) g b off (S0.map fun e => ptrV e.a) len (pre ++ [⟨(yi, y1, y2, y3, y4), hyi⟩]) (V9.setCell ⟨w.heap.size + 1 + 1 + 1 + 1 + 1, 0, none⟩ (.slice ov N9 cv))) := by
              have hset := keeps_set (K := fun k => k ≠ w.heap.size + 1 + 1 + 1 + 1 + 1) V9 (w.heap.size + 1 + 1 + 1 + 1 + 1) 0 (.slice ov N9 cv) (fun h => h rfl)
              have hsz9 := HO9.out.size
              have hsz9' : W'.heap.size ≤ V9.heap.size := hsz9
              have hkY : Keeps (fun k => k < Y.heap.size ∧ k ≠ w.heap.size + 1 + 1 + 1 + 1 + 1 ∧ k ≠ g) W' (V9.setCell ⟨w.heap.size + 1 + 1 + 1 + 1 + 1, 0, none⟩ (.slice ov N9 cv)) := by
                refine ⟨hset.os.trans HO9.out.os, hset.tape.trans HO9.out.tape, hset.output.trans HO9.out.output, by simpa using hsz9', fun k hk => (hset.block k hk.2.1).trans (HO9.out.block k ⟨by show k < W'.heap.size; have := hk.1; omega, fun e => ?_⟩)⟩
                rcases HOO.out k e with h | h
                · exact hk.2.2 h
                · have := hk.1
                  omega
              refine ⟨⟨by simpa using hsz9', fun k ob hB hob' hcl => ?_⟩, hkY, ⟨.slice ov N9 cv, ?_, ?_, HKK.out.trans hkY, fun g' hg' => ?_⟩⟩
              · have hne : k ≠ w.heap.size + 1 + 1 + 1 + 1 + 1 := fun e => by
                  rw [e, HBB.out] at hob'
                  cases hob'
                  cases hcl
                refine (hset.block k hne).trans ((HO9.out.block k ⟨(Array.getElem?_eq_some_iff.1 hob').1, fun e => ?_⟩).trans hob')
                obtain ⟨-, cur, hc⟩ := HRR.out.own e
                rw [hob'] at hc
                cases hc
                cases hcl
              · rw [heap_set_same _ HB9.out]
                rfl
              · rw [List.map_append, ← List.append_assoc]
                refine HRW.out.keep fun g' hg' => hset.block g' fun e => ?_
                obtain ⟨-, cur, hc⟩ := HRW.out.own hg'
                rw [e, HB9.out] at hc
                simp only [Option.some.injEq, Obj.cells.injEq] at hc
                exact ptr_ne hc.2.1.symm
              · rcases HOB9.out g' hg' with h | h
                · exact HOO.out g' h
                · exact .inr (by have : W'.heap.size ≤ g' := h; omega)
            clear hrn hrow9 ho9 hob9 hk ho hdk hb hb9 hrow hvl
            gi_wp2
            refine wpIn_region_any (by kernel_rfl) ?_
            try (change wpAnyIn _ _ _ _ _ _ _ _ _ (World.drew _))
            refine ?s0000000000
            refine wpAnyIn_ready (rs := [0, 1, 5]) (by kernel_rfl) (by simp) ?rs0000000000
            refine (AllReadyIn.cons rfl (fun K hK => ?ks00000000000) (AllReadyIn.cons rfl (fun K hK => ?ks00000000001) (AllReadyIn.cons rfl (fun K hK => ?ks00000000005) AllReadyIn.nil)))
            · go_simp
              refine hK _ _ ?hs00000000000
              clear hK K
              refine ?s1000000000
              refine wpAnyIn_ready (rs := [1, 5]) (by kernel_rfl) (by simp) ?rs1000000000
              refine (AllReadyIn.cons rfl (fun K hK => ?ks10000000001) (AllReadyIn.cons rfl (fun K hK => ?ks10000000005) AllReadyIn.nil))
              · go_simp
                refine hK _ _ ?hs10000000001
                clear hK K
                refine ?s1100000000
                refine wpAnyIn_ready (rs := [2, 5]) (by kernel_rfl) (by simp) ?rs1100000000
                refine (AllReadyIn.cons rfl (fun K hK => ?ks11000000002) (AllReadyIn.cons rfl (fun K hK => ?ks11000000005) AllReadyIn.nil))
                · go_simp
                  refine hK _ _ ?hs11000000002
                  clear hK K
                  refine ?s1110000000
                  refine wpAnyIn_ready (rs := [3, 5]) (by kernel_rfl) (by simp) ?rs1110000000
                  refine (AllReadyIn.cons rfl (fun K hK => ?ks11100000003) (AllReadyIn.cons rfl (fun K hK => ?ks11100000005) AllReadyIn.nil))
                  · go_simp
                    refine hK _ _ ?hs11100000003
                    clear hK K
                    refine ?s1111000000
                    refine wpAnyIn_ready (rs := [4, 5]) (by kernel_rfl) (by simp) ?rs1111000000
                    refine (AllReadyIn.cons rfl (fun K hK => ?ks11110000004) (AllReadyIn.cons rfl (fun K hK => ?ks11110000005) AllReadyIn.nil))
                    · go_simp
                      refine hK _ _ ?hs11110000004
                      clear hK K
                      refine ?s1111100000
                      refine wpAnyIn_ready (rs := [5]) (by kernel_rfl) (by simp) ?rs1111100000
                      refine (AllReadyIn.cons rfl (fun K hK => ?ks11111000005) AllReadyIn.nil)
                      go_simp
                      refine hK _ _ ?hs11111000005
                      clear hK K
                      refine ?s1111110000
                      refine wpAnyIn_ready (rs := [6]) (by kernel_rfl) (by simp) ?rs1111110000
                      refine (AllReadyIn.cons rfl (fun K hK => ?ks11111100006) AllReadyIn.nil)
                      go_simp
                      refine hK _ _ ?hs11111100006
                      clear hK K
                      refine ?s1111111000
                      refine wpAnyIn_ready (rs := [7]) (by kernel_rfl) (by simp) ?rs1111111000
                      refine (AllReadyIn.cons rfl (fun K hK => ?ks11111110007) AllReadyIn.nil)
                      go_simp
                      refine hK _ _ ?hs11111110007
                      clear hK K
                      refine ?s1111111100
                      refine wpAnyIn_ready (rs := [8]) (by kernel_rfl) (by simp) ?rs1111111100
                      refine (AllReadyIn.cons rfl (fun K hK => ?ks11111111008) AllReadyIn.nil)
                      refine step_app_in rfl (.tmp 58) (.tmp 65) 54 rfl vl (.slice (some ⟨W'.heap.size, 0, none⟩) 1 1) (.slice ov N9 cv) V9 (by simp [Act.eval, Act.put]) (by simp [Act.eval, Act.put]) HRN.out ?as1111111100
                      refine hK _ _ ?hs11111111008
                      clear hK K
                      refine ?s1111111110
                      refine wpAnyIn_ready (rs := [9]) (by kernel_rfl) (by simp) ?rs1111111110
                      refine (AllReadyIn.cons rfl (fun K hK => ?ks11111111109) AllReadyIn.nil)
                      go_simp
                      refine hK _ _ ?hs11111111109
                      clear hK K
                      refine ?s1111111111
                      refine wpAnyIn_done (by kernel_rfl) ?ds1111111111 _
                      exact HLF.out
                    · go_simp
                      refine hK _ _ ?hs11110000005
                      clear hK K
                      refine ?s1111010000
                      refine wpAnyIn_ready (rs := [4]) (by kernel_rfl) (by simp) ?rs1111010000
                      refine (AllReadyIn.cons rfl (fun K hK => ?ks11110100004) AllReadyIn.nil)
                      go_simp
                      refine hK _ _ ?hs11110100004
                      clear hK K
                      exact ?s1111110000
                  · go_simp
                    refine hK _ _ ?hs11100000005
                    clear hK K
                    refine ?s1110010000
                    refine wpAnyIn_ready (rs := [3]) (by kernel_rfl) (by simp) ?rs1110010000
                    refine (AllReadyIn.cons rfl (fun K hK => ?ks11100100003) AllReadyIn.nil)
                    go_simp
                    refine hK _ _ ?hs11100100003
                    clear hK K
                    exact ?s1111010000
                · go_simp
                  refine hK _ _ ?hs11000000005
                  clear hK K
                  refine ?s1100010000
                  refine wpAnyIn_ready (rs := [2]) (by kernel_rfl) (by simp) ?rs1100010000
                  refine (AllReadyIn.cons rfl (fun K hK => ?ks11000100002) AllReadyIn.nil)
                  go_simp
                  refine hK _ _ ?hs11000100002
                  clear hK K
                  exact ?s1110010000
              · go_simp
                refine hK _ _ ?hs10000000005
                clear hK K
                refine ?s1000010000
                refine wpAnyIn_ready (rs := [1]) (by kernel_rfl) (by simp) ?rs1000010000
                refine (AllReadyIn.cons rfl (fun K hK => ?ks10000100001) AllReadyIn.nil)
                go_simp
                refine hK _ _ ?hs10000100001
                clear hK K
                exact ?s1100010000
            · go_simp
              refine hK _ _ ?hs00000000001
              clear hK K
              refine ?s0100000000
              refine wpAnyIn_ready (rs := [0, 2, 5]) (by kernel_rfl) (by simp) ?rs0100000000
              refine (AllReadyIn.cons rfl (fun K hK => ?ks01000000000) (AllReadyIn.cons rfl (fun K hK => ?ks01000000002) (AllReadyIn.cons rfl (fun K hK => ?ks01000000005) AllReadyIn.nil)))
              · go_simp
                refine hK _ _ ?hs01000000000
                clear hK K
                exact ?s1100000000
              · go_simp
                refine hK _ _ ?hs01000000002
                clear hK K
                refine ?s0110000000
                refine wpAnyIn_ready (rs := [0, 3, 5]) (by kernel_rfl) (by simp) ?rs0110000000
                refine (AllReadyIn.cons rfl (fun K hK => ?ks01100000000) (AllReadyIn.cons rfl (fun K hK => ?ks01100000003) (AllReadyIn.cons rfl (fun K hK => ?ks01100000005) AllReadyIn.nil)))
                · go_simp
                  refine hK _ _ ?hs01100000000
                  clear hK K
                  exact ?s1110000000
                · go_simp
                  refine hK _ _ ?hs01100000003
                  clear hK K
                  refine ?s0111000000
                  refine wpAnyIn_ready (rs := [0, 4, 5]) (by kernel_rfl) (by simp) ?rs0111000000
                  refine (AllReadyIn.cons rfl (fun K hK => ?ks01110000000) (AllReadyIn.cons rfl (fun K hK => ?ks01110000004) (AllReadyIn.cons rfl (fun K hK => ?ks01110000005) AllReadyIn.nil)))
                  · go_simp
                    refine hK _ _ ?hs01110000000
                    clear hK K
                    exact ?s1111000000
                  · go_simp
                    refine hK _ _ ?hs01110000004
                    clear hK K
                    refine ?s0111100000
                    refine wpAnyIn_ready (rs := [0, 5]) (by kernel_rfl) (by simp) ?rs0111100000
                    refine (AllReadyIn.cons rfl (fun K hK => ?ks01111000000) (AllReadyIn.cons rfl (fun K hK => ?ks01111000005) AllReadyIn.nil))
                    · go_simp
                      refine hK _ _ ?hs01111000000
                      clear hK K
                      exact ?s1111100000
                    · go_simp
                      refine hK _ _ ?hs01111000005
                      clear hK K
                      refine ?s0111110000
                      refine wpAnyIn_ready (rs := [0, 6]) (by kernel_rfl) (by simp) ?rs0111110000
                      refine (AllReadyIn.cons rfl (fun K hK => ?ks01111100000) (AllReadyIn.cons rfl (fun K hK => ?ks01111100006) AllReadyIn.nil))
                      · go_simp
                        refine hK _ _ ?hs01111100000
                        clear hK K
                        exact ?s1111110000
                      · go_simp
                        refine hK _ _ ?hs01111100006
                        clear hK K
                        refine ?s0111111000
                        refine wpAnyIn_ready (rs := [0, 7]) (by kernel_rfl) (by simp) ?rs0111111000
                        refine (AllReadyIn.cons rfl (fun K hK => ?ks01111110000) (AllReadyIn.cons rfl (fun K hK => ?ks01111110007) AllReadyIn.nil))
                        · go_simp
                          refine hK _ _ ?hs01111110000
                          clear hK K
                          exact ?s1111111000
                        · go_simp
                          refine hK _ _ ?hs01111110007
                          clear hK K
                          refine ?s0111111100
                          refine wpAnyIn_ready (rs := [0]) (by kernel_rfl) (by simp) ?rs0111111100
                          refine (AllReadyIn.cons rfl (fun K hK => ?ks01111111000) AllReadyIn.nil)
                          go_simp
                          refine hK _ _ ?hs01111111000
                          clear hK K
                          exact ?s1111111100
                  · go_simp
                    refine hK _ _ ?hs01110000005
                    clear hK K
                    refine ?s0111010000
                    refine wpAnyIn_ready (rs := [0, 4]) (by kernel_rfl) (by simp) ?rs0111010000
                    refine (AllReadyIn.cons rfl (fun K hK => ?ks01110100000) (AllReadyIn.cons rfl (fun K hK => ?ks01110100004) AllReadyIn.nil))
                    · go_simp
                      refine hK _ _ ?hs01110100000
                      clear hK K
                      exact ?s1111010000
                    · go_simp
                      refine hK _ _ ?hs01110100004
                      clear hK K
                      exact ?s0111110000
                · go_simp
                  refine hK _ _ ?hs01100000005
                  clear hK K
                  refine ?s0110010000
                  refine wpAnyIn_ready (rs := [0, 3]) (by kernel_rfl) (by simp) ?rs0110010000
                  refine (AllReadyIn.cons rfl (fun K hK => ?ks01100100000) (AllReadyIn.cons rfl (fun K hK => ?ks01100100003) AllReadyIn.nil))
                  · go_simp
                    refine hK _ _ ?hs01100100000
                    clear hK K
                    exact ?s1110010000
                  · go_simp
                    refine hK _ _ ?hs01100100003
                    clear hK K
                    exact ?s0111010000
              · go_simp
                refine hK _ _ ?hs01000000005
                clear hK K
                refine ?s0100010000
                refine wpAnyIn_ready (rs := [0, 2]) (by kernel_rfl) (by simp) ?rs0100010000
                refine (AllReadyIn.cons rfl (fun K hK => ?ks01000100000) (AllReadyIn.cons rfl (fun K hK => ?ks01000100002) AllReadyIn.nil))
                · go_simp
                  refine hK _ _ ?hs01000100000
                  clear hK K
                  exact ?s1100010000
                · go_simp
                  refine hK _ _ ?hs01000100002
                  clear hK K
                  exact ?s0110010000
            · go_simp
              refine hK _ _ ?hs00000000005
              clear hK K
              refine ?s0000010000
              refine wpAnyIn_ready (rs := [0, 1]) (by kernel_rfl) (by simp) ?rs0000010000
              refine (AllReadyIn.cons rfl (fun K hK => ?ks00000100000) (AllReadyIn.cons rfl (fun K hK => ?ks00000100001) AllReadyIn.nil))
              · go_simp
                refine hK _ _ ?hs00000100000
                clear hK K
                exact ?s1000010000
              · go_simp
                refine hK _ _ ?hs00000100001
                clear hK K
                exact ?s0100010000

          case done =>
            rintro D ys W' hD rfl ⟨vl, hb, hrow, hk, ho⟩ hDD
            rw [up_rows cc hes hj len (Nat.le_refl _), List.take_of_length_le (Nat.le_of_eq (by rw [List.length_reverse, hes])), ← List.map_append] at hrow
            have hg1 := hgY.1
            obtain ⟨-, curg, hcg⟩ := hgY
            have hkk : ∀ k, k < Y.heap.size → k ≠ w.heap.size + 1 + 1 + 1 + 1 + 1 → k ≠ g → W'.heap[k]? = Y.heap[k]? := fun k h1 h2 h3 => hk.block k ⟨h1, h2, h3⟩
            have hmp : ∀ (k : Nat) (ee : Array MapEntry) (cl : Nat), Y.heap[k]? = some (.map ee cl) → W'.heap[k]? = Y.heap[k]? := fun k ee cl h9 => hkk k (Array.getElem?_eq_some_iff.1 h9).1 (fun e => by rw [e, hMY.box] at h9; cases h9) (fun e => by rw [e, hcg] at h9; cases h9)
            obtain ⟨r1, r2⟩ := seen_new HSEEN.out HTD.out HFF.out HTE.out hnn
            have hlenN := ifNew_len k n nums
            have hsr : ((S0 ++ es.reverse).map Ent.n).sum = (S0.map Ent.n).sum + (es.map Ent.n).sum := by rw [List.map_append, List.sum_append, List.map_reverse, List.sum_reverse]
            have hnn' : dn = 1 + (es.map Ent.n).sum := hnn
            have hstN : StL K w1 (vz h [] x) (w.heap.size + 1 + 1 + 1 + 1 + 1) (w.heap.size + 1 + 1) (w.heap.size + 1 + 1 + 1) u3 W' (S0 ++ es.reverse) (ifNew k n nums) (addK ks ⟨db, dof, none⟩) vl := by
              refine ⟨hMY.below.trans ⟨hk.os, hk.tape, hk.output, hk.size, fun q hq => hkk q (by omega) (by omega) (by omega)⟩, hb, hrow, hMY.row.keep fun q hq => ?_, ?_, ?_, fun e he => ?_, r2, r1.symm.trans HRUN.out, by omega⟩
              · obtain ⟨-, cur, hc⟩ := hMY.row.own hq
                refine hkk q (Array.getElem?_eq_some_iff.1 hc).1 (fun e => ?_) (fun e => ?_)
                · rw [e, hMY.box] at hc
                  simp only [Option.some.injEq, Obj.cells.injEq] at hc
                  exact int_ne hc.2.1.symm
                · rw [e, hcg] at hc
                  simp only [Option.some.injEq, Obj.cells.injEq] at hc
                  exact int_ne2 hc.2.1.symm
              · obtain ⟨ee, cl, h9, -⟩ := id hMY.told
                exact hMY.told.keep (hmp _ ee cl h9)
              · obtain ⟨ee, cl, h9, -⟩ := id hMY.seen
                exact hMY.seen.keep (hmp _ ee cl h9)
              · rcases List.mem_append.1 he with he | he
                · exact HT.out e (by simp [he])
                · exact HTE.out e (List.mem_reverse.1 he)
            have hmkN : Mks w1.heap.size W' ({ target := .collected D, args := #[] } :: ds) := by
              refine ⟨⟨D, rfl, by omega, hDD, fun d' hd' e => ?_⟩, hMKY.keep fun D' _ hD' _ => hkk D' (Array.getElem?_eq_some_iff.1 hD').1 (fun e => by rw [e, hMY.box] at hD'; cases hD') (fun e => by rw [e, hcg] at hD'; cases hD')⟩
              obtain ⟨D', e', -, h9⟩ := hMKY.of d' hd'
              rw [e'] at e
              simp only [Deferred.mk.injEq, Target.collected.injEq, and_true] at e
              have := (Array.getElem?_eq_some_iff.1 h9).1
              omega
            have HSTN := hide hstN
            have HMKN := hide hmkN
            have HLT : Hid ((S0.map Ent.n).sum + (es.map Ent.n).sum < (S0.map Ent.n).sum + dn) := by
              show _ < _
              omega
            clear hstN hmkN hmp hkk r1 r2
            gi_wp2
            refine ⟨⟨_, _, _, _, _, _, _, _, _, _, _, _, _, _, _, _, _, _, _, _, _, _, _, _, _, _, _, _, _, _, _, _, _, _, _, _, _, _, _, _, _, _, _, _, _, _, _, _, _, _, _, _, _, _, _, _, _, _, _, _, _, _, _, rfl, HSTN.out, HMKN.out⟩, ?_⟩
            rw [wt_eps HSTN.out.wt, wt_eps HST.out.wt, hsr]
            have h9 := HLT.out
            simpa [List.sum_append] using h9
end Go.Proofs.Ytncgbdbkoeiffam.Vo
