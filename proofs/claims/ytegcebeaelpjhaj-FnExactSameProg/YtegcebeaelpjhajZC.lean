/- The model's sameness of definitions, a step; its SameExp. -/
import Derived.Test.YtegcebeaelpjhajZB
namespace Go.Proofs.Ytegcebeaelpjhaj
open Go.ChangeShapes Go.WideShapes Go.ChangeAt Go.RowKit

set_option maxHeartbeats 2000000 in
set_option maxRecDepth 100000 in
theorem sameDecs_step {h : Nat} (i1 : SaEx h) (i2 : SaDs h) : SaDs (h + 1) := by
  intro K L xs ys oa ob ca cb w hra hrb hla hlb
  have I1 := hide i1
  have I2 := hide i2
  have HA := hide hra
  have HB := hide hrb
  have ml1 : xs.length ≤ 9223372036854775807 := hla
  have ml2 : ys.length ≤ 9223372036854775807 := hlb
  clear i1 i2 hra hrb hla hlb
  by_cases hlen : xs.length = ys.length
  case neg =>
    have h1 : (xs.length != ys.length) = true := by simpa using hlen
    have h2 : ((xs.length : Int) != (ys.length : Int)) = true := by simp; omega
    have HLEN := hide hlen
    clear hlen
    go_enter Try.func24, Try.ntmps24
    go_wp2
    go_ret
    exact ⟨ret_bool (by unfold rowB; rw [decide_eq_false HLEN.out]; rfl), Below.refl _ _⟩
  have h1 : (xs.length != ys.length) = false := by simpa using hlen
  have h2 : ((xs.length : Int) != (ys.length : Int)) = false := by simp; omega
  have HLEN := hide hlen
  have hle : xs.length ≤ ys.length := by omega
  clear hlen
  go_enter Try.func24, Try.ntmps24
  go_wp2
  clear h1 h2
  go_loopw [5] (fun t wr => ∃ i : Nat, i ≤ xs.length ∧ t = .int .i64 i ∧ rowTo (sm (h + 1)).de xs ys i = true ∧ Below w.heap.size w wr) (fun t _ => xs.length - (intOf t).toNat)
  case atStart => exact ⟨0, Nat.zero_le _, rfl, rfl, Below.refl _ _⟩
  case round =>
    obtain ⟨i, hi, rfl, hro, hbw⟩ := hrel
    have HRO := hide hro
    have HBW := hide hbw
    clear hro hbw
    by_cases hlt : i < xs.length
    · have hne : xs ≠ [] := by intro e; rw [e] at hlt; simp at hlt
      have hne2 : ys ≠ [] := by intro e; rw [e] at hle; simp at hle; rw [hle] at hlt; simp at hlt
      obtain ⟨x, hx⟩ : ∃ x, xs[i]? = some x := ⟨xs[i], List.getElem?_eq_getElem hlt⟩
      obtain ⟨y, hy⟩ : ∃ y, ys[i]? = some y := ⟨ys[i]'(by omega), List.getElem?_eq_getElem _⟩
      obtain ⟨ba, fa, e1, -, bla, hA⟩ := (HA.out.later HBW.out (reads_later HBW.out (h + 1)).2.1) hne
      obtain ⟨bb, fb, e2, -, blb, hB⟩ := (HB.out.later HBW.out (reads_later HBW.out (h + 1)).2.1) hne2
      subst e1 e2
      obtain ⟨va, -, hkA, rA⟩ := hA i x hx
      obtain ⟨vb, -, hkB, rB⟩ := hB i y hy
      obtain ⟨-, -, -, ea, pa, na, cea, qa, ma, hea, rfl, -, fa1, fa2, rsa, hca, rea, rda⟩ := rA
      obtain ⟨-, -, -, eb, pb, nb, ceb, qb, mb, heb, rfl, -, fb1, fb2, rsb, hcb, reb, rdb⟩ := rB
      obtain ⟨v2, v3, v4, v5, v6, v7, rfl⟩ := six hca
      obtain ⟨u2, u3, u4, u5, u6, u7, rfl⟩ := six hcb
      have hlt2 : (i : Int) < xs.length := by omega
      have hlt3 : (i : Int) < ys.length := by omega
      have ga0 := later_at bla (hkA 0 (.string x.s) rfl)
      have gb0 := later_at blb (hkB 0 (.string y.s) rfl)
      have ga1 := later_at bla (hkA 1 (.slice pa x.ss.length na) rfl)
      have gb1 := later_at blb (hkB 1 (.slice pb y.ss.length nb) rfl)
      have ga2 := later_at bla (hkA 2 (v2) rfl)
      have gb2 := later_at blb (hkB 2 (u2) rfl)
      have ga3 := later_at bla (hkA 3 (v3) rfl)
      have gb3 := later_at blb (hkB 3 (u3) rfl)
      have ga4 := later_at bla (hkA 4 (v4) rfl)
      have gb4 := later_at blb (hkB 4 (u4) rfl)
      have ga5 := later_at bla (hkA 5 (v5) rfl)
      have gb5 := later_at blb (hkB 5 (u5) rfl)
      have ga6 := later_at bla (hkA 6 (v6) rfl)
      have gb6 := later_at blb (hkB 6 (u6) rfl)
      have ga7 := later_at bla (hkA 7 (v7) rfl)
      have gb7 := later_at blb (hkB 7 (u7) rfl)
      have ga8 := later_at bla (hkA 8 (.slice qa x.ds.length ma) rfl)
      have gb8 := later_at blb (hkB 8 (.slice qb y.ds.length mb) rfl)
      rw [Nat.add_zero] at ga0 gb0
      have RSA := hide rsa
      have RSB := hide rsb
      have REA := hide rea
      have REB := hide reb
      have RDA := hide rda
      have RDB := hide rdb
      have MLA := hide fa1.1
      have MLB := hide fb1.1
      have DLA := hide fa2.1
      have DLB := hide fb2.1
      have hpa : pairB (sm (h + 1)).de xs ys i = (eqS x.s y.s && (strsB x.ss y.ss && ((sm h).ex ea eb && rowB (sm h).de x.ds y.ds))) := by
        rw [pair_at hx hy]
        show (eqS x.s y.s && (strsB x.ss y.ss && (rowB (sm h).ex x.l y.l && _))) = _
        rw [hea, heb, row_one]
      have HPA := hide hpa
      clear hx hy hA hB hne hne2 hkA hkB rsa rsb rea reb rda rdb fa1 fb1 fa2 fb2 hca hcb hea heb hpa
      have hne0 : Nonempty (Later wr) := later_nonempty wr
      cases he : eqS x.s y.s
      · have he1 : (x.s.toList == y.s.toList) = false := he
        have he2 : (x.s.toList != y.s.toList) = true := by show (!(eqS x.s y.s)) = true; rw [he]; rfl
        have HE := hide he
        clear he
        go_wp2_with fail
        refine wp_region_class (S := fun v => Below wr.heap.size wr v) (by kernel_rfl) (by kernel_rfl) (below_drew _) ?_
        repeat (first | go_big_quiet_skip | (go_big_quiet_want; go_big_quiet_op; first | go_big_quiet_on | (apply Exists.intro; refine ⟨fun q => ?_, ?_⟩; (first | (go_at_call 55; refine (sameTexts_any x.ss y.ss pa pb na nb _ MLA.out MLB.out (RSA.out.later q.h fun _ _ h => h) (RSB.out.later q.h fun _ _ h => h)).mono ?_; rintro e w9 ⟨rfl, hb9⟩; rw [HT.out]; exact ⟨rfl, Later.on q hb9, rfl⟩) | (go_at_call 56; refine (I1.out K L ea eb [v2, v3, v4, v5, v6, v7] [u2, u3, u4, u5, u6, u7] _ ((reads_later q.h h).1 _ _ REA.out) ((reads_later q.h h).1 _ _ REB.out)).mono ?_; rintro e w9 ⟨rfl, hb9⟩; rw [HD.out]; exact ⟨rfl, Later.on q hb9, rfl⟩) | (go_at_call 24; refine (I2.out K L x.ds y.ds qa qb ma mb _ (RDA.out.later q.h (reads_later q.h h).2.1) (RDB.out.later q.h (reads_later q.h h).2.1) DLA.out DLB.out).mono ?_; rintro e w9 ⟨rfl, hb9⟩; rw [HW.out]; exact ⟨rfl, Later.on q hb9, rfl⟩)); go_big_quiet_on)))
        refine wpQuiet_nil ?_
        intro _ hw'
        obtain ⟨q, rfl⟩ := hw'
        go_wp2
        go_ret
        have hf : rowTo (sm (h + 1)).de xs ys (i + 1) = false := by
          show (_ && pairB (sm (h + 1)).de xs ys i) = false
          rw [HPA.out, HE.out]
          simp
        exact ⟨ret_bool (by unfold rowB; rw [rowTo_false hf hlt]; simp), HBW.out.trans (q.h.mono HBW.out.size)⟩
      have he1 : (x.s.toList == y.s.toList) = true := he
      have he2 : (x.s.toList != y.s.toList) = false := by show (!(eqS x.s y.s)) = false; rw [he]; rfl
      have HE := hide he
      clear he
      cases ht : strsB x.ss y.ss
      · have HT := hide ht
        clear ht
        go_wp2_with fail
        refine wp_region_class (S := fun v => Below wr.heap.size wr v) (by kernel_rfl) (by kernel_rfl) (below_drew _) ?_
        repeat (first | go_big_quiet_skip | (go_big_quiet_want; go_big_quiet_op; first | go_big_quiet_on | (apply Exists.intro; refine ⟨fun q => ?_, ?_⟩; (first | (go_at_call 55; refine (sameTexts_any x.ss y.ss pa pb na nb _ MLA.out MLB.out (RSA.out.later q.h fun _ _ h => h) (RSB.out.later q.h fun _ _ h => h)).mono ?_; rintro e w9 ⟨rfl, hb9⟩; rw [HT.out]; exact ⟨rfl, Later.on q hb9, rfl⟩) | (go_at_call 56; refine (I1.out K L ea eb [v2, v3, v4, v5, v6, v7] [u2, u3, u4, u5, u6, u7] _ ((reads_later q.h h).1 _ _ REA.out) ((reads_later q.h h).1 _ _ REB.out)).mono ?_; rintro e w9 ⟨rfl, hb9⟩; rw [HD.out]; exact ⟨rfl, Later.on q hb9, rfl⟩) | (go_at_call 24; refine (I2.out K L x.ds y.ds qa qb ma mb _ (RDA.out.later q.h (reads_later q.h h).2.1) (RDB.out.later q.h (reads_later q.h h).2.1) DLA.out DLB.out).mono ?_; rintro e w9 ⟨rfl, hb9⟩; rw [HW.out]; exact ⟨rfl, Later.on q hb9, rfl⟩)); go_big_quiet_on)))
        refine wpQuiet_nil ?_
        intro _ hw'
        obtain ⟨q, rfl⟩ := hw'
        go_wp2
        go_ret
        have hf : rowTo (sm (h + 1)).de xs ys (i + 1) = false := by
          show (_ && pairB (sm (h + 1)).de xs ys i) = false
          rw [HPA.out, HT.out]
          simp
        exact ⟨ret_bool (by unfold rowB; rw [rowTo_false hf hlt]; simp), HBW.out.trans (q.h.mono HBW.out.size)⟩
      have HT := hide ht
      clear ht
      cases hd : (sm h).ex ea eb
      · have HD := hide hd
        clear hd
        go_wp2_with fail
        refine wp_region_class (S := fun v => Below wr.heap.size wr v) (by kernel_rfl) (by kernel_rfl) (below_drew _) ?_
        repeat (first | go_big_quiet_skip | (go_big_quiet_want; go_big_quiet_op; first | go_big_quiet_on | (apply Exists.intro; refine ⟨fun q => ?_, ?_⟩; (first | (go_at_call 55; refine (sameTexts_any x.ss y.ss pa pb na nb _ MLA.out MLB.out (RSA.out.later q.h fun _ _ h => h) (RSB.out.later q.h fun _ _ h => h)).mono ?_; rintro e w9 ⟨rfl, hb9⟩; rw [HT.out]; exact ⟨rfl, Later.on q hb9, rfl⟩) | (go_at_call 56; refine (I1.out K L ea eb [v2, v3, v4, v5, v6, v7] [u2, u3, u4, u5, u6, u7] _ ((reads_later q.h h).1 _ _ REA.out) ((reads_later q.h h).1 _ _ REB.out)).mono ?_; rintro e w9 ⟨rfl, hb9⟩; rw [HD.out]; exact ⟨rfl, Later.on q hb9, rfl⟩) | (go_at_call 24; refine (I2.out K L x.ds y.ds qa qb ma mb _ (RDA.out.later q.h (reads_later q.h h).2.1) (RDB.out.later q.h (reads_later q.h h).2.1) DLA.out DLB.out).mono ?_; rintro e w9 ⟨rfl, hb9⟩; rw [HW.out]; exact ⟨rfl, Later.on q hb9, rfl⟩)); go_big_quiet_on)))
        refine wpQuiet_nil ?_
        intro _ hw'
        obtain ⟨q, rfl⟩ := hw'
        go_wp2
        go_ret
        have hf : rowTo (sm (h + 1)).de xs ys (i + 1) = false := by
          show (_ && pairB (sm (h + 1)).de xs ys i) = false
          rw [HPA.out, HD.out]
          simp
        exact ⟨ret_bool (by unfold rowB; rw [rowTo_false hf hlt]; simp), HBW.out.trans (q.h.mono HBW.out.size)⟩
      have HD := hide hd
      clear hd
      cases hw : rowB (sm h).de x.ds y.ds
      · have HW := hide hw
        clear hw
        go_wp2_with fail
        refine wp_region_class (S := fun v => Below wr.heap.size wr v) (by kernel_rfl) (by kernel_rfl) (below_drew _) ?_
        repeat (first | go_big_quiet_skip | (go_big_quiet_want; go_big_quiet_op; first | go_big_quiet_on | (apply Exists.intro; refine ⟨fun q => ?_, ?_⟩; (first | (go_at_call 55; refine (sameTexts_any x.ss y.ss pa pb na nb _ MLA.out MLB.out (RSA.out.later q.h fun _ _ h => h) (RSB.out.later q.h fun _ _ h => h)).mono ?_; rintro e w9 ⟨rfl, hb9⟩; rw [HT.out]; exact ⟨rfl, Later.on q hb9, rfl⟩) | (go_at_call 56; refine (I1.out K L ea eb [v2, v3, v4, v5, v6, v7] [u2, u3, u4, u5, u6, u7] _ ((reads_later q.h h).1 _ _ REA.out) ((reads_later q.h h).1 _ _ REB.out)).mono ?_; rintro e w9 ⟨rfl, hb9⟩; rw [HD.out]; exact ⟨rfl, Later.on q hb9, rfl⟩) | (go_at_call 24; refine (I2.out K L x.ds y.ds qa qb ma mb _ (RDA.out.later q.h (reads_later q.h h).2.1) (RDB.out.later q.h (reads_later q.h h).2.1) DLA.out DLB.out).mono ?_; rintro e w9 ⟨rfl, hb9⟩; rw [HW.out]; exact ⟨rfl, Later.on q hb9, rfl⟩)); go_big_quiet_on)))
        refine wpQuiet_nil ?_
        intro _ hw'
        obtain ⟨q, rfl⟩ := hw'
        go_wp2
        go_ret
        have hf : rowTo (sm (h + 1)).de xs ys (i + 1) = false := by
          show (_ && pairB (sm (h + 1)).de xs ys i) = false
          rw [HPA.out, HW.out]
          simp
        exact ⟨ret_bool (by unfold rowB; rw [rowTo_false hf hlt]; simp), HBW.out.trans (q.h.mono HBW.out.size)⟩
      have HW := hide hw
      clear hw
      go_wp2_with fail
      refine wp_region_class (S := fun v => Below wr.heap.size wr v) (by kernel_rfl) (by kernel_rfl) (below_drew _) ?_
      repeat (first | go_big_quiet_skip | (go_big_quiet_want; go_big_quiet_op; first | go_big_quiet_on | (apply Exists.intro; refine ⟨fun q => ?_, ?_⟩; (first | (go_at_call 55; refine (sameTexts_any x.ss y.ss pa pb na nb _ MLA.out MLB.out (RSA.out.later q.h fun _ _ h => h) (RSB.out.later q.h fun _ _ h => h)).mono ?_; rintro e w9 ⟨rfl, hb9⟩; rw [HT.out]; exact ⟨rfl, Later.on q hb9, rfl⟩) | (go_at_call 56; refine (I1.out K L ea eb [v2, v3, v4, v5, v6, v7] [u2, u3, u4, u5, u6, u7] _ ((reads_later q.h h).1 _ _ REA.out) ((reads_later q.h h).1 _ _ REB.out)).mono ?_; rintro e w9 ⟨rfl, hb9⟩; rw [HD.out]; exact ⟨rfl, Later.on q hb9, rfl⟩) | (go_at_call 24; refine (I2.out K L x.ds y.ds qa qb ma mb _ (RDA.out.later q.h (reads_later q.h h).2.1) (RDB.out.later q.h (reads_later q.h h).2.1) DLA.out DLB.out).mono ?_; rintro e w9 ⟨rfl, hb9⟩; rw [HW.out]; exact ⟨rfl, Later.on q hb9, rfl⟩)); go_big_quiet_on)))
      refine wpQuiet_nil ?_
      intro _ hw'
      obtain ⟨q, rfl⟩ := hw'
      go_wp2
      go_roundw
      case rel =>
        refine ⟨i + 1, by omega, by go_num, ?_, HBW.out.trans (q.h.mono HBW.out.size)⟩
        show (rowTo (sm (h + 1)).de xs ys i && pairB (sm (h + 1)).de xs ys i) = true
        rw [HPA.out, HE.out, HT.out, HD.out, HW.out, HRO.out]
        rfl
      case measure => simp [intOf]; omega
    · go_wp2
      go_ret
      refine ⟨ret_bool ?_, HBW.out⟩
      have h2 := HRO.out
      rw [show i = xs.length by omega] at h2
      unfold rowB
      rw [decide_eq_true HLEN.out, h2]
      rfl

set_option maxHeartbeats 400000 in
theorem sameDecs_nil (oa ob : Option Addr) (ca cb : Nat) (w : World) : Calls Try.prog 24 #[.slice oa 0 ca, .slice ob 0 cb] w fun e w' => e = .returned (.bool true) ∧ Below w.heap.size w w' := by
  go_enter Try.func24, Try.ntmps24
  go_wp2
  go_loopw [5] (fun t wr => t = .int .i64 0 ∧ Below w.heap.size w wr) (fun _ _ => 0)
  case atStart => exact ⟨rfl, Below.refl _ _⟩
  case round =>
    obtain ⟨rfl, hbw⟩ := hrel
    have HBW := hide hbw
    clear hbw
    go_wp2
    go_ret
    exact ⟨rfl, HBW.out⟩
theorem row_false {K : Nat → Prop} {w : World} {size : Nat} {o : Option Addr} {xs : List Tr} (hm : RowOf K w (fun _ _ => False) size o xs) : xs = [] := by
  cases xs with
  | nil => rfl
  | cons x r =>
    obtain ⟨_, _, _, _, _, hc⟩ := hm (by simp)
    obtain ⟨_, _, _, hf⟩ := hc 0 x rfl
    exact hf.elim
theorem sa_all (h : Nat) : SaEx h ∧ SaDs h ∧ SaAl h := by
  induction h with
  | zero =>
    refine ⟨fun _ _ _ _ _ _ _ hr => hr.elim, ?_, fun _ _ _ _ _ _ _ _ _ _ _ _ _ _ _ _ _ _ _ _ _ hr => hr.elim⟩
    intro K L xs ys oa ob ca cb w hra hrb hla hlb
    have e1 : xs = [] := row_false hra
    have e2 : ys = [] := row_false hrb
    subst e1 e2
    exact sameDecs_nil oa ob ca cb w
  | succ h ih => exact ⟨sameExp_step ih.1 ih.2.1 ih.2.2, sameDecs_step ih.1 ih.2.1, saAl_step ih.1⟩
end Go.Proofs.Ytegcebeaelpjhaj
