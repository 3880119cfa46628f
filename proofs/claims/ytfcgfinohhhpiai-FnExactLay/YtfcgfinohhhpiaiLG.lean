/- The model's putting out of a sign. -/
import Derived.Test.YtfcgfinohhhpiaiLF
import Derived.Deep.DeepCutAuto
import Derived.Deep.CutBlock
namespace Go.Proofs.Ytfcgfinohhhpiai
open Go.RowKit

def SpecRes (w : World) (K : Nat → Prop) (g : Nat) : Option (List Int × List TokZ × Bool) → Prop
  | none => ∃ st out wait, SpecAt w K g out st wait true
  | some (a, b, c) => SpecAt w K g b a c false
theorem SpecAt.kw {w : World} {K : Nat → Prop} {g : Nat} {out : List TokZ} {st : List Int} {wait bad : Bool} (h : SpecAt w K g out st wait bad) : ∀ k, K k → k < w.heap.size := by
  obtain ⟨vo, vs, hg, hm⟩ := h
  exact hm.kw
def closedZ (st : List Int) (out : List TokZ) (t : TokZ) : List Int × List TokZ := if closes t = true then closeA 0 st out else (st, out)
theorem closeA_head (c : Int) (st : List Int) (out : List TokZ) (h : ¬ c < st.head?.getD (-9)) : closeA c st out = (st, out) := by
  cases st with
  | nil => rfl
  | cons x r =>
    unfold closeA
    rw [if_neg (show ¬ c < x from h)]
theorem closeA_step (c : Int) (h : Int) (r : List Int) (out : List TokZ) (hc : c < h) : closeA c (h :: r) out = closeA c r (out ++ [markZ sShut]) := by
  rw [closeA, if_pos hc]
theorem closedZ_sum (st : List Int) (out : List TokZ) (t : TokZ) : (closedZ st out t).1.length + (closedZ st out t).2.length = st.length + out.length := by
  unfold closedZ
  split
  · exact closeA_sum 0 st out
  · rfl
theorem needZ_low (t : TokZ) : -5 ≤ needZ t := by
  unfold needZ
  repeat' split
  all_goals decide
theorem outZ_pop {st : List Int} {out : List TokZ} {t : TokZ} {h : Int} {r : List Int} {o : List TokZ} (hc : closedZ st out t = (h :: r, o)) (hN : needZ t ≤ 0) (hh : h = needZ t) : outZ st out t = some (pushZ (opensZ t) r, o ++ [t], waitZ t) := by
  unfold closedZ at hc
  unfold outZ
  simp only
  rw [hc, if_pos hN]
  simp only
  rw [if_pos hh]
theorem outZ_bad {st : List Int} {out : List TokZ} {t : TokZ} {s : List Int} {o : List TokZ} (hc : closedZ st out t = (s, o)) (hN : needZ t ≤ 0) (hh : ¬ s.head?.getD (-9) = needZ t) : outZ st out t = none := by
  unfold closedZ at hc
  unfold outZ
  simp only
  rw [hc, if_pos hN]
  cases s with
  | nil => rfl
  | cons x r =>
    simp only
    rw [if_neg (show ¬ x = needZ t from hh)]
theorem outZ_plain {st : List Int} {out : List TokZ} {t : TokZ} {s : List Int} {o : List TokZ} (hc : closedZ st out t = (s, o)) (hN : ¬ needZ t ≤ 0) : outZ st out t = some (pushZ (opensZ t) s, o ++ [t], waitZ t) := by
  unfold closedZ at hc
  unfold outZ
  simp only
  rw [hc, if_neg hN]
theorem head_cons {st : List Int} {x : Int} (h : st.head?.getD (-9) = x) (hx : x ≠ -9) : ∃ r, st = x :: r := by
  cases st with
  | nil => exact absurd h.symm hx
  | cons y r => exact ⟨r, by rw [show y = x from h]⟩
theorem pushZ_step (l st : List Int) (i : Nat) (n : Int) (h : l[i]? = some n) : n :: pushZ (l.take i) st = pushZ (l.take (i + 1)) st := by
  unfold pushZ
  rw [List.take_add_one, h]
  simp
theorem SpecAt.new {w w' : World} {K : Nat → Prop} {g : Nat} {out : List TokZ} {st : List Int} {wait bad : Bool} (h : SpecAt w K g out st wait bad) (hb : Below w.heap.size w w') {b : Nat} (h1 : w.heap.size ≤ b) (h2 : b < w'.heap.size) : SpecAt w' (fun k => K k ∨ k = b) g out st wait bad := by
  obtain ⟨vo, vs, hg, hm⟩ := h
  have hm2 := hm.later hb
  have hgw := hm.gw
  refine ⟨vo, vs, (hb.block g hm.gw).trans hg, hm2.more (fun k hk => ?_) (fun hk => ?_) (fun k hk hK => ?_) (fun k hk hK => ?_)⟩
  · rcases hk with hk | rfl
    · exact hm2.kw k hk
    · exact h2
  · rcases hk with hk | e
    · exact hm.kg hk
    · omega
  · rcases hK with hK | e
    · exact hm.ko k hk hK
    · have := (owns_lt hm.out k hk).1
      omega
  · rcases hK with hK | e
    · exact hm.ks k hk hK
    · have := (owns_lt hm.st k hk).1
      omega
/-- A sign, appended to what is put out. -/
theorem put_run {w : World} {K : Nat → Prop} {g : Nat} {vo vs : Value} {out : List TokZ} {st : List Int} (h : LayMem w K g vo vs out st) (t : TokZ) (hn : out.length ≤ 10000000) :
    ∃ o' n' cap' w', (Builtin.append_ #[24, 24] 24 #[vo, .slice (some ⟨w.heap.size, 0, none⟩) 1 1]).run Try.prog (w.alloc (tokObj t)).drew = .ok (.slice o' n' cap') w' ∧ LayMem w' K g (.slice o' n' cap') vs (out ++ [t]) st ∧ Keeps K w w' ∧ w'.heap[g]? = w.heap[g]? := by
  obtain ⟨i0, hi, hz0, hz1, hz2⟩ := info_parts tok_info2
  have h1 := h.alloc (tokObj t)
  have h2 : LayMem (w.alloc (tokObj t)).drew K g vo vs out st := h1.same (Nat.le_refl _) fun _ _ _ => rfl
  obtain ⟨v', w', hr, hown, hgr, -, hb⟩ := run_append_own_at (P := Try.prog) (w.alloc (tokObj t)).drew 0 24 24 70 i0 _ 4 40 Try.underlying24 hi hz0 hz1 hz2 rfl (by decide) vo out.length (rowZ out) h2.out ⟨w.heap.size, 0, none⟩ 1 1 (cellsZ t) rfl
    (cells4_at w _ _ _ _ _) (cells4_one _ _ _ _) (by unfold maxLen; omega) (by omega) (Nat.zero_le _)
  obtain ⟨o', cap', rfl⟩ := owns_form hown
  obtain ⟨hm2, hk2, hg2⟩ := h2.put hown hgr hb
  refine ⟨o', _, cap', w', hr, hm2, ?_, ?_⟩
  · have h3 : Keeps K w (w.alloc (tokObj t)).drew := (keeps_alloc w (tokObj t) h.kw).trans ⟨rfl, rfl, rfl, Nat.le_refl _, fun _ _ => rfl⟩
    exact h3.trans hk2
  · rw [hg2]
    exact Below.heap_alloc w (tokObj t) g h.gw
theorem SpecAt.wait2 {w : World} {K : Nat → Prop} {g : Nat} {out : List TokZ} {st : List Int} {wait bad : Bool} (h : SpecAt w K g out st wait bad) : w.cell? ⟨g, 2, none⟩ = some (.bool wait) ∧ w.frozen? ⟨g, 2, none⟩ = false := by
  obtain ⟨vo, vs, hg, hm⟩ := h
  exact ⟨cell_of hg 2, frozen_of hg 2⟩
theorem SpecAt.setWait {w : World} {K : Nat → Prop} {g : Nat} {out : List TokZ} {st : List Int} {wait bad : Bool} (h : SpecAt w K g out st wait bad) (x : Bool) : SpecAt (w.setCell ⟨g, 2, none⟩ (.bool x)) K g out st x bad ∧ Keeps K w (w.setCell ⟨g, 2, none⟩ (.bool x)) := by
  obtain ⟨vo, vs, hg, hm⟩ := h
  exact ⟨⟨vo, vs, heap_set_same _ hg, hm.set _ _⟩, keeps_set _ _ _ _ hm.kg⟩
theorem needZ_end (t : TokZ) (h : t.k = 6) : needZ t = 1 := by
  unfold needZ isB
  rw [h]
  rfl

set_option maxHeartbeats 4000000 in
set_option maxRecDepth 100000 in
theorem l2Out_any {w : World} {K : Nat → Prop} {g : Nat} {out : List TokZ} {st : List Int} {wait : Bool} (t : TokZ) (h : SpecAt w K g out st wait false) (hn : out.length + st.length ≤ 8000000) :
    Calls Try.prog 59 #[.pointer (some ⟨g, 0, none⟩), aggZ t] w fun e w' => e = .returned (.tuple #[]) ∧ SpecRes w' K g (outZ st out t) ∧ Keeps K w w' := by
  have HK0 := hide (keeps_alloc w (tokObj t) h.kw)
  have HS0 := hide (h.box (tokObj t))
  have HX0 := hide (heap_alloc_new w (tokObj t))
  clear h
  unfold aggZ
  go_enter Try.func59, Try.ntmps59
  go_wp2_with fail
  rw [tok_eta2]
  refine (l2Needs_any t _).mono ?_
  rintro e w1 ⟨rfl, hb1⟩
  have HS1 := hide (HS0.out.later hb1)
  have HK1 := hide (keeps_of (K := fun k => K k ∨ k = w.heap.size) hb1 HS0.out.kw)
  clear hb1
  generalize hN : needZ t = N
  have HN := hide hN
  clear hN
  go_upto_block 0 with fail
  go_cut [] (fun wc => SpecAt wc (fun k => K k ∨ k = w.heap.size) g (closedZ st out t).2 (closedZ st out t).1 wait false ∧ Keeps (fun k => K k ∨ k = w.heap.size) (w.alloc (tokObj t)) wc)
  case first =>
    go_wp2
    go_loopw [] (fun wr => ∃ (st' : List Int) (out' : List TokZ), closedZ st out t = closedZ st' out' t ∧ out'.length + st'.length ≤ 8000000 ∧ SpecAt wr (fun k => K k ∨ k = w.heap.size) g out' st' wait false ∧ Keeps (fun k => K k ∨ k = w.heap.size) (w.alloc (tokObj t)) wr) (fun wr => stackLen wr g)
    case atStart => exact ⟨st, out, rfl, hn, HS1.out, HK1.out⟩
    case round =>
      obtain ⟨st', out', hcl, hn', hS, hK⟩ := hrel
      have HCL := hide hcl
      have HS := hide hS
      have HK := hide hK
      obtain ⟨x0, x1, x2, x3⟩ := tokObj_cells ((hK.block w.heap.size (Or.inr rfl)).trans HX0.out)
      have HLEN := hide hS.len
      clear hcl hS hK
      by_cases hA : N < 0 ∨ (¬ N < 0 ∧ t.k = 6)
      · have HCS : Hid (closes t = true) := by
          show closes t = true
          unfold closes
          rw [HN.out]
          rcases hA with hA | ⟨_, hB⟩
          · simp [hA]
          · simp [hB]
        by_cases hx : 0 < st'.head?.getD (-9)
        · obtain ⟨r, hr⟩ := head_cons rfl (show st'.head?.getD (-9) ≠ -9 by omega)
          generalize st'.head?.getD (-9) = x at hr hx
          subst hr
          have HC2 : Hid (closedZ st out t = closedZ r (out' ++ [markZ sShut]) t) := by
            show closedZ st out t = closedZ r (out' ++ [markZ sShut]) t
            rw [HCL.out]
            unfold closedZ
            rw [HCS.out, if_pos rfl, if_pos rfl, closeA_step 0 x r out' hx]
          rw [List.length_cons] at hn'
          rcases hA with hA | ⟨hA, hB⟩
          all_goals
            first | (have hB2 : (t.k == 6) = true := by simp [hB]) | skip
            try clear hB
            go_wp2_with fail
            refine (l2Top_any HS.out (by rw [List.length_cons]; omega)).mono ?_
            rintro e w2 ⟨rfl, m2, rfl⟩
            simp only [List.head?_cons, Option.getD_some]
            go_wp2_with fail
            refine (l2Pop_any (HS.out.drewN _) (by rw [List.length_cons]; omega)).mono ?_
            rintro e w3 ⟨rfl, hs3, hk3⟩
            have HS3 := hide hs3
            have HK3 := hide ((HK.out.drewN _).trans hk3)
            clear hs3 hk3
            go_wp2_with fail
            refine (l2Put_any ⟨#[125]⟩ HS3.out (by omega)).mono ?_
            rintro e w4 ⟨rfl, hs4, hk4⟩
            have HS4 := hide hs4
            have HK4 := hide (HK3.out.trans hk4)
            clear hs4 hk4
            go_wp2
            refine ⟨⟨r, out' ++ [markZ sShut], HC2.out, by rw [List.length_append]; simp only [List.length_cons, List.length_nil]; omega, HS4.out, HK4.out⟩, ?_⟩
            rw [HS4.out.len, HLEN.out]
            exact Nat.lt_succ_self _
        · have HC2 : Hid (closedZ st out t = (st', out')) := by
            show closedZ st out t = (st', out')
            rw [HCL.out]
            unfold closedZ
            rw [HCS.out, if_pos rfl, closeA_head 0 st' out' hx]
          generalize hxx : st'.head?.getD (-9) = x at hx
          have HXX := hide hxx
          clear hxx
          rcases hA with hA | ⟨hA, hB⟩
          all_goals
            first | (have hB2 : (t.k == 6) = true := by simp [hB]) | skip
            try clear hB
            go_wp2_with fail
            refine (l2Top_any HS.out (by omega)).mono ?_
            rintro e w2 ⟨rfl, m2, rfl⟩
            rw [HXX.out]
            go_wp2
            go_meet
            case rel =>
              rw [HC2.out]
              exact ⟨HS.out.drewN _, HK.out.drewN _⟩
      · have hA1 : ¬ N < 0 := fun h => hA (Or.inl h)
        have hB2 : (t.k == 6) = false := by
          cases hb : (t.k == 6)
          · rfl
          · exact absurd (Or.inr ⟨hA1, by simpa using hb⟩) hA
        have HC2 : Hid (closedZ st out t = (st', out')) := by
          show closedZ st out t = (st', out')
          rw [HCL.out]
          unfold closedZ closes
          rw [HN.out, hB2]
          simp [hA1]
        clear hA
        go_wp2
        go_meet
        case rel =>
          rw [HC2.out]
          exact ⟨HS.out, HK.out⟩
  case rest =>
    obtain ⟨hSc, hKc⟩ := hcut
    have hsum := closedZ_sum st out t
    obtain ⟨st1, out1, hP⟩ : ∃ s o, closedZ st out t = (s, o) := ⟨_, _, rfl⟩
    rw [hP] at hSc hsum
    simp only at hSc hsum
    have HP := hide hP
    have HKC := hide hKc
    have HSC := hide hSc
    obtain ⟨x0, x1, x2, x3⟩ := tokObj_cells ((hKc.block w.heap.size (Or.inr rfl)).trans HX0.out)
    obtain ⟨vo, vs, hg, hm⟩ := hSc
    obtain ⟨o', n', cap', w2, hr, hm2, hk2, hg2⟩ := put_run hm t (by omega)
    rw [hg] at hg2
    have c0 := cell_of hg 0
    have d0 := cell_of hg2 0
    simp only [List.getElem?_toArray, List.getElem?_cons_zero] at c0 d0
    have f0 := frozen_of hg2 0
    have hgw : g < wc.heap.size := hm.gw
    have hbw : w.heap.size < wc.heap.size := hm.kw _ (Or.inr rfl)
    have HR := hide hr
    have HM2 := hide hm2
    have HK2 := hide (hKc.trans hk2)
    have HG2 := hide hg2
    clear hP hKc hg hm hr hm2 hk2 hg2
    go_upto_region 5 with fail
    go_cut [] (fun wd => SpecAt wd (fun k => K k ∨ k = w.heap.size) g (out1 ++ [t]) st1 wait false ∧ Keeps (fun k => K k ∨ k = w.heap.size) (w.alloc (tokObj t)) wd)
    case first =>
      go_region_law (refine step_append_run rfl (.tmp 29) (.tmp 31) 24 rfl vo (.slice (some ⟨wc.heap.size, 0, none⟩) 1 1) (.slice o' n' cap') w2 (by simp [Act.eval]) (by simp [Act.eval]) HR.out ?_)
      all_goals
        go_wp2_with fail
        go_meet
        case rel => exact ⟨⟨_, vs, heap_set_same _ HG2.out, HM2.out.set _ _⟩, HK2.out.trans (keeps_set _ _ _ _ HM2.out.kg)⟩
    case rest =>
      obtain ⟨hSd, hKd⟩ := hcut
      have HSD := hide hSd
      have HKD := hide hKd
      have hlow := needZ_low t
      rw [HN.out] at hlow
      clear x0 x1 x2 x3 c0 d0 f0 HM2 HG2 HR HK2 hSd hKd hgw hbw HKC
      go_upto_if 36 with fail
      go_cut [] (fun we => ∃ st2 : List Int, outZ st out t = some (pushZ (opensZ t) st2, out1 ++ [t], waitZ t) ∧ st2.length ≤ st1.length ∧ SpecAt we (fun k => K k ∨ k = w.heap.size) g (out1 ++ [t]) st2 wait false ∧ Keeps (fun k => K k ∨ k = w.heap.size) (w.alloc (tokObj t)) we)
      case first =>
        by_cases hN0 : N ≤ 0
        · go_wp2_with fail
          refine (l2Top_any HSD.out (by rw [List.length_append]; simp only [List.length_cons, List.length_nil]; omega)).mono ?_
          rintro e w3 ⟨rfl, m3, rfl⟩
          generalize hxx : st1.head?.getD (-9) = x
          by_cases hx : x = N
          · obtain ⟨r, hr⟩ := head_cons hxx (by omega)
            subst hr
            have HO := hide (outZ_pop HP.out (by rw [HN.out]; exact hN0) (by rw [HN.out]; exact hx))
            have hxb : (x == N) = true := by simp [hx]
            clear hxx hx
            rw [List.length_cons] at hsum
            go_wp2_with fail
            refine (l2Pop_any (HSD.out.drewN _) (by rw [List.length_append]; simp only [List.length_cons, List.length_nil]; omega)).mono ?_
            rintro e w4 ⟨rfl, hs4, hk4⟩
            have HS4 := hide hs4
            have HK4 := hide ((HKD.out.drewN _).trans hk4)
            clear hs4 hk4
            go_wp2
            go_meet
            case rel => exact ⟨r, HO.out, by rw [List.length_cons]; omega, HS4.out, HK4.out⟩
          · have HO := hide (outZ_bad HP.out (by rw [HN.out]; exact hN0) (by rw [HN.out, hxx]; exact hx))
            have hxb : (x == N) = false := by simp [hx]
            obtain ⟨vo, vs, hg, hm⟩ := HSD.out.drewN m3
            have c3 := cell_of hg 3
            simp only [List.getElem?_toArray, List.getElem?_cons_succ, List.getElem?_cons_zero] at c3
            have f3 := frozen_of hg 3
            have HG := hide hg
            have HM := hide hm
            have HKE := hide (HKD.out.drewN m3)
            generalize wc.drewN m3 = we at c3 f3 HG HM HKE ⊢
            clear hxx hx hg hm
            go_wp2
            try simp only [Exit.inBlock, Exit.then]
            refine bodyPost_ret (results_none rfl _ _ _) rfl ⟨rfl, ?_, ?_⟩
            · rw [HO.out]
              have hs : SpecAt (we.setCell ⟨g, 3, none⟩ (.bool true)) (fun k => K k ∨ k = w.heap.size) g (out1 ++ [t]) st1 wait true := ⟨vo, vs, heap_set_same _ HG.out, HM.out.set _ _⟩
              exact ⟨st1, out1 ++ [t], wait, hs.less fun k hk => Or.inl hk⟩
            · exact HK0.out.trans ((HKE.out.trans (keeps_set _ _ _ _ HM.out.kg)).mono fun k hk => Or.inl hk)
        · have HO := hide (outZ_plain HP.out (by rw [HN.out]; exact hN0))
          go_wp2
          go_meet
          case rel => exact ⟨st1, HO.out, Nat.le_refl _, HSD.out, HKD.out⟩
      case rest =>
        obtain ⟨st2, hO, hlen, hS, hK⟩ := hcut
        have HO := hide hO
        have HSD2 := hide hS
        have HKD2 := hide hK
        obtain ⟨x0, x1, x2, x3⟩ := tokObj_cells ((hK.block w.heap.size (Or.inr rfl)).trans HX0.out)
        have hol := opensZ_le t
        clear hO hS hK
        go_wp2_with fail
        rw [tok_eta2]
        refine (l2Opens_any t _).mono ?_
        rintro e w5 ⟨v, rfl, ⟨b, rfl, hb0, hbh⟩, hb5⟩
        have HS5 := hide (HSD2.out.new hb5 hb0 (heap_lt hbh))
        have HK5 := hide (keeps_of hb5 HSD2.out.kw)
        have HBH := hide hbh
        have HX5 := hide ((hb5.block w.heap.size (HSD2.out.kw _ (Or.inr rfl))).trans ((HKD2.out.block w.heap.size (Or.inr rfl)).trans HX0.out))
        clear hb5 hbh x0 x1 x2 x3
        generalize hops : opensZ t = ops at HO HBH hol
        go_wp2
        go_loopw [6] (fun t6 wr => ∃ i : Nat, i ≤ ops.length ∧ t6 = .int .i64 i ∧ SpecAt wr (fun k => (K k ∨ k = w.heap.size) ∨ k = b) g (out1 ++ [t]) (pushZ (ops.take i) st2) wait false ∧ Keeps (fun k => (K k ∨ k = w.heap.size) ∨ k = b) w5 wr) (fun t6 _ => ops.length - (intOf t6).toNat)
        case atStart => exact ⟨0, Nat.zero_le _, rfl, HS5.out, Keeps.refl _ _⟩
        case round =>
          obtain ⟨i, hi, rfl, hS, hK⟩ := hrel
          have HSR := hide hS
          have HKR := hide hK
          have HBR := hide ((hK.block b (Or.inr rfl)).trans HBH.out)
          have HXR0 := hide ((hK.block w.heap.size (Or.inl (Or.inr rfl))).trans HX5.out)
          clear hS hK
          by_cases hlt : i < ops.length
          · obtain ⟨n, hnn⟩ : ∃ n, ops[i]? = some n := ⟨ops[i], List.getElem?_eq_getElem hlt⟩
            have ci := cell_of HBR.out i
            rw [List.getElem?_toArray, List.getElem?_map, hnn] at ci
            simp only [Option.map_some] at ci
            have HNN := hide hnn
            have hlt2 : (i : Int) < ops.length := by omega
            clear hnn
            go_wp2_with fail
            refine (l2Push_any n HSR.out ?_).mono ?_
            · rw [pushZ, List.length_append, List.length_append, List.length_reverse, List.length_take]
              simp only [List.length_cons, List.length_nil]
              omega
            rintro e w6 ⟨rfl, hs6, hk6⟩
            rw [pushZ_step _ _ _ _ HNN.out] at hs6
            have HS6 := hide hs6
            have HK6 := hide (HKR.out.trans hk6)
            clear hs6 hk6
            go_wp2
            refine ⟨⟨i + 1, by omega, by go_num, HS6.out, HK6.out⟩, by simp [intOf]; omega⟩
          · have hie : i = ops.length := by omega
            subst hie
            have HSX : Hid (SpecAt wr (fun k => (K k ∨ k = w.heap.size) ∨ k = b) g (out1 ++ [t]) (pushZ ops st2) wait false) := by
              have h := HSR.out
              rw [List.take_length] at h
              exact h
            have HS7 := HSX
            have HK7 := HKR
            have HXR := HX5
            obtain ⟨x0, x1, x2, x3⟩ := tokObj_cells HXR0.out
            have HW : Hid (waitZ t = (isB t 4 ⟨#[108, 101, 116]⟩ || isB t 4 ⟨#[119, 104, 101, 114, 101]⟩ || isB t 4 ⟨#[111, 102]⟩)) := rfl
            go_wp2_with fail
            rw [tok_eta2]
            refine (is_any t 4 ⟨#[108, 101, 116]⟩ _).mono ?_
            rintro e w8 ⟨rfl, hb⟩
            have HS8 := hide (HS7.out.later hb)
            have HK8 := hide (HK7.out.trans (keeps_of hb HS7.out.kw))
            clear hb
            obtain ⟨x0, x1, x2, x3⟩ := tokObj_cells ((HK8.out.block w.heap.size (Or.inl (Or.inr rfl))).trans HXR.out)
            obtain ⟨c2, f2⟩ := HS8.out.wait2
            cases hI1 : isB t 4 ⟨#[108, 101, 116]⟩
            rotate_left
            · rw [hI1] at HW
              clear hI1
              go_wp2
              go_end0
              obtain ⟨hs, hk⟩ := HS8.out.setWait (true)
              refine ⟨rfl, ?_, ?_⟩
              · rw [HO.out, HW.out]
                exact hs.less fun k hk => Or.inl (Or.inl hk)
              · exact HK0.out.trans ((HKD2.out.trans (HK5.out.trans ((HK8.out.trans hk).mono fun k hk => Or.inl hk))).mono fun k hk => Or.inl hk)
            · rw [hI1] at HW
              clear hI1
              go_wp2_with fail
              rw [tok_eta2]
              refine (is_any t 4 ⟨#[119, 104, 101, 114, 101]⟩ _).mono ?_
              rintro e w9 ⟨rfl, hb⟩
              have HS9 := hide (HS8.out.later hb)
              have HK9 := hide (HK8.out.trans (keeps_of hb HS8.out.kw))
              clear hb
              obtain ⟨x0, x1, x2, x3⟩ := tokObj_cells ((HK9.out.block w.heap.size (Or.inl (Or.inr rfl))).trans HXR.out)
              obtain ⟨c2, f2⟩ := HS9.out.wait2
              cases hI2 : isB t 4 ⟨#[119, 104, 101, 114, 101]⟩
              rotate_left
              · rw [hI2] at HW
                clear hI2
                go_wp2
                go_end0
                obtain ⟨hs, hk⟩ := HS9.out.setWait (true)
                refine ⟨rfl, ?_, ?_⟩
                · rw [HO.out, HW.out]
                  exact hs.less fun k hk => Or.inl (Or.inl hk)
                · exact HK0.out.trans ((HKD2.out.trans (HK5.out.trans ((HK9.out.trans hk).mono fun k hk => Or.inl hk))).mono fun k hk => Or.inl hk)
              · rw [hI2] at HW
                clear hI2
                go_wp2_with fail
                rw [tok_eta2]
                refine (is_any t 4 ⟨#[111, 102]⟩ _).mono ?_
                rintro e w10 ⟨rfl, hb⟩
                have HS10 := hide (HS9.out.later hb)
                have HK10 := hide (HK9.out.trans (keeps_of hb HS9.out.kw))
                clear hb
                obtain ⟨x0, x1, x2, x3⟩ := tokObj_cells ((HK10.out.block w.heap.size (Or.inl (Or.inr rfl))).trans HXR.out)
                obtain ⟨c2, f2⟩ := HS10.out.wait2
                generalize isB t 4 ⟨#[111, 102]⟩ = b3 at HW ⊢
                go_wp2
                go_end0
                obtain ⟨hs, hk⟩ := HS10.out.setWait (b3)
                refine ⟨rfl, ?_, ?_⟩
                · rw [HO.out, HW.out]
                  exact hs.less fun k hk => Or.inl (Or.inl hk)
                · exact HK0.out.trans ((HKD2.out.trans (HK5.out.trans ((HK10.out.trans hk).mono fun k hk => Or.inl hk))).mono fun k hk => Or.inl hk)
end Go.Proofs.Ytfcgfinohhhpiai
