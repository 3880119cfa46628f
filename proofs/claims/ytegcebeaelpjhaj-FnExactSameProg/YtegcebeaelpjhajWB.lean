/- The program's SameProg: just if the two are one program. -/
import Derived.Test.YtegcebeaelpjhajWA
namespace Go.Proofs.Ytegcebeaelpjhaj
open Go.ChangeShapes Go.WideShapes Go.ChangeAt Go.RowKit

section
variable {K K' : Nat → Prop} {w : World}
theorem row_in (hK : ∀ b, K b → b < w.heap.size → K' b) {α : Type} {R R' : α → List Value → Prop} {size : Nat} {o : Option Addr} {xs : List α} (hm : RowOf K w R size o xs) (hR : ∀ x cs, R x cs → R' x cs) : RowOf K' w R' size o xs := by
  intro hne
  obtain ⟨b, off, e, hk, hl, hc⟩ := hm hne
  refine ⟨b, off, e, hK b hk hl, hl, fun i x hx => ?_⟩
  obtain ⟨cs, h1, h2, h3⟩ := hc i x hx
  exact ⟨cs, h1, h2, hR x cs h3⟩
/-- What can be read lies in blocks that are there. -/
theorem reads_in (hK : ∀ b, K b → b < w.heap.size → K' b) : ∀ h, (∀ e cs, (reads K w h).ex e cs → (reads K' w h).ex e cs) ∧ (∀ d cs, (reads K w h).de d cs → (reads K' w h).de d cs) ∧ (∀ a cs, (reads K w h).al a cs → (reads K' w h).al a cs) := by
  intro h
  induction h with
  | zero => exact ⟨fun _ _ h => h, fun _ _ h => h, fun _ _ h => h⟩
  | succ h ih =>
    obtain ⟨ih1, ih2, ih3⟩ := ih
    refine ⟨fun e cs he => ?_, fun d cs hd => ?_, fun a cs ha => ?_⟩
    · obtain ⟨e0, o1, c1, o2, c2, o3, c3, e1, e2, e3, e4, e5, r1, r2, r3⟩ := he
      exact ⟨e0, o1, c1, o2, c2, o3, c3, e1, e2, e3, e4, e5, row_in hK r1 ih1, row_in hK r2 ih2, row_in hK r3 ih3⟩
    · obtain ⟨d0, d1, d2, e, o1, c1, ce, o2, c2, e0, e1, e2, e3, e4, r1, e5, r2, r3⟩ := hd
      exact ⟨d0, d1, d2, e, o1, c1, ce, o2, c2, e0, e1, e2, e3, e4, row_in hK r1 (fun _ _ h => h), e5, ih1 _ _ r2, row_in hK r3 ih2⟩
    · obtain ⟨a0, a1, a2, a3, e, o1, c1, ce, e0, e1, e2, e3, r1, e4, r2⟩ := ha
      exact ⟨a0, a1, a2, a3, e, o1, c1, ce, e0, e1, e2, e3, row_in hK r1 (fun _ _ h => h), e4, ih1 _ _ r2⟩
theorem tyR_in (hK : ∀ b, K b → b < w.heap.size → K' b) : ∀ h x cs, tyR K w h x cs → tyR K' w h x cs := by
  intro h
  induction h with
  | zero => exact fun _ _ h => h
  | succ h ih =>
    rintro x cs ⟨e1, e2, e3, o, c, e, hs, hf, hr⟩
    exact ⟨e1, e2, e3, o, c, e, hs, hf, row_in hK hr ih⟩
theorem nlR_in (hK : ∀ b, K b → b < w.heap.size → K' b) {R R' : Tr → List Value → Prop} {n : Nat} (hR : ∀ x cs, R x cs → R' x cs) : ∀ x cs, nlR K w R n x cs → nlR K' w R' n x cs := by
  rintro x cs ⟨e1, e2, e3, e4, e5, o, c, e, hs, hf, hr⟩
  exact ⟨e1, e2, e3, e4, e5, o, c, e, hs, hf, row_in hK hr hR⟩
theorem prR_in (hK : ∀ b, K b → b < w.heap.size → K' b) (h : Nat) : ∀ x cs, prR K w h x cs → prR K' w h x cs := by
  rintro x cs ⟨e1, e2, e3, e4, e5, o1, c1, o2, c2, e, f1, f2, r1, r2⟩
  exact ⟨e1, e2, e3, e4, e5, o1, c1, o2, c2, e, f1, f2, row_in hK r1 (nlR_in hK (nlR_in hK (tyR_in hK h))), row_in hK r2 (reads_in hK h).2.1⟩
end
theorem de_len {K : Nat → Prop} {w : World} {h : Nat} {o : Option Addr} {xs : List Tr} (r : RowOf K w (reads K w h).de 9 o xs) : xs.length ≤ (xs.map (ndh h)).sum := by
  cases h with
  | zero => rw [row_zero r]; exact Nat.zero_le _
  | succ h => exact list_sum_len (h + 1) ndh xs fun y _ => ndh_one h y
/-- All that has been put is still left. -/
theorem Grown.good {W : World} {KP : Nat → Prop} {F : Prop} {ls ks : Nat → List (Addr × Addr)} {n : Nat} (h : Grown W KP F (fun _ => []) (fun _ => []) ls ks n) : Good W KP F ls ks n := by
  obtain ⟨a, ha, n0, n1, n2, n3, w0, w1, w2, w3, hn⟩ := h
  refine ⟨⟨n0, n1, n2, n3, ?_, ?_, ?_, ?_, hn⟩, fun i hi p hp => .inl ?_⟩
  · rw [(ha 0 (by omega)).1]; exact w0
  · rw [(ha 1 (by omega)).1]; exact w1
  · rw [(ha 2 (by omega)).1]; exact w2
  · rw [(ha 3 (by omega)).1]; exact w3
  · rw [(ha i hi).1]; rw [(ha i hi).2] at hp; exact hp
theorem grown_decs {W : World} {KP : Nat → Prop} {F : Prop} (ls ks : Nat → List (Addr × Addr)) {h h' : Nat} {o p : Option Addr} {xs ys : List Tr} (r : RowOf KP W (reads KP W h).de 9 o xs) (q : RowOf KP W (reads KP W h').de 9 p ys) (hl : xs.length = ys.length) (hF : F → xs = ys) :
    Grown W KP F ls ks (upd ls 1 (ls 1 ++ puts (ks 1) o p 9 xs.length ys.length)) (upd ks 1 (ks 1 ++ puts (ks 1) o p 9 xs.length ys.length)) (xs.map (ndh h)).sum := by
  refine ⟨fun j => if j = 1 then puts (ks 1) o p 9 xs.length ys.length else [], fun j hj => ?_, 0, _, 0, 0, trivial, puts_wt (j := 1) (ks 1) r q hl hF, trivial, trivial, by omega⟩
  match j, hj with
  | 0, _ => exact ⟨(List.append_nil _).symm, (List.append_nil _).symm⟩
  | 1, _ => exact ⟨rfl, rfl⟩
  | 2, _ => exact ⟨(List.append_nil _).symm, (List.append_nil _).symm⟩
  | 3, _ => exact ⟨(List.append_nil _).symm, (List.append_nil _).symm⟩
theorem below_keeps {w W w' : World} {n : Nat} (hb : Below w.heap.size w W) (hk : Keeps (fun k => k < w.heap.size + n) W w') : Below w.heap.size w w' := hb.trans ⟨hk.os, hk.tape, hk.output, hk.size, fun k h9 => hk.block k (by show k < w.heap.size + n; omega)⟩

set_option maxHeartbeats 1000000 in
set_option maxRecDepth 100000 in
theorem implSameProg_any {w : World} {B h : Nat} {t u : Tr} {ca cb : List Value} (hpl : ∀ b, B ≤ b → b < w.heap.size → ∃ c e, w.heap[b]? = some (.cells c e (0, 0))) (ra : prR (FromK B) w h t ca) (rb : prR (FromK B) w h u cb) (hn : (t.l.map (wdn h)).sum + (t.ds.map (ndh h)).sum ≤ 3000000) :
    Calls Try.prog 9 #[.agg ca.toArray, .agg cb.toArray] w fun e w' => ∃ b, e = .returned (.bool b) ∧ (b = true ↔ t = u) ∧ Below w.heap.size w w' := by
  obtain ⟨o1, c1, o2, c2, rfl⟩ := pr_form ra
  obtain ⟨p1, d1, p2, d2, rfl⟩ := pr_form rb
  generalize hV : ((w.alloc (.cells #[.slice o1 t.l.length c1, .slice o2 t.ds.length c2] 31)).alloc (.cells #[.slice p1 u.l.length d1, .slice p2 u.ds.length d2] 31)) = V
  have hbV : Below w.heap.size w V := by rw [← hV]; exact ((Below.refl _ w).alloc (Nat.le_refl _) _).alloc (by simp) _
  have hsV : V.heap.size = w.heap.size + 2 := by rw [← hV]; simp
  have ha : V.heap[w.heap.size]? = some (.cells #[.slice o1 t.l.length c1, .slice o2 t.ds.length c2] 31 (0, 0)) := by rw [← hV]; exact (Below.heap_alloc _ _ _ (by simp)).trans (heap_alloc_new w _)
  have hb : V.heap[w.heap.size + 1]? = some (.cells #[.slice p1 u.l.length d1, .slice p2 u.ds.length d2] 31 (0, 0)) := by rw [← hV]; exact heap_alloc2_new w _ _
  generalize hW : (V.alloc (.cells #[.slice none 0 0, .map none, .slice none 0 0, .map none, .slice none 0 0, .map none, .slice none 0 0, .map none] 83)) = W
  have hbW : Below V.heap.size V W := by rw [← hW]; exact (Below.refl _ V).alloc (Nat.le_refl _) _
  have hKP : ∀ b, (B ≤ b ∧ b < w.heap.size + 2) → b < w.heap.size + 2 := fun b h => h.2
  have hzero : HeldMem TT W (fun k => k < w.heap.size + 2) (w.heap.size + 2) (fun _ => []) (fun _ => []) := by
    have h9 := held_zero4 (w := V) (K := fun k => k < w.heap.size + 2) (e := 83) (fun k h => by rw [hsV]; exact h)
    rw [hsV, hW] at h9
    exact h9
  have ha' := (hbW.block w.heap.size (by omega)).trans ha
  have hb' := (hbW.block (w.heap.size + 1) (by omega)).trans hb
  have hp : ∀ b, (B ≤ b ∧ b < w.heap.size + 2) → PlainAt W ⟨b, 0, none⟩ := by
    rintro b ⟨h1, h2⟩
    by_cases e1 : b < w.heap.size
    · obtain ⟨c, e, hc⟩ := hpl b h1 e1
      exact ⟨c, e, (hbW.block b (by omega)).trans ((hbV.block b e1).trans hc)⟩
    · by_cases e2 : b = w.heap.size
      · subst e2
        exact ⟨_, _, ha'⟩
      · have e3 : b = w.heap.size + 1 := by omega
        subst e3
        exact ⟨_, _, hb'⟩
  have rin : ∀ b, FromK B b → b < w.heap.size → (B ≤ b ∧ b < w.heap.size + 2) := fun b h1 h2 => ⟨h1, by omega⟩
  have hbA : Below w.heap.size w W := hbV.trans (hbW.mono (by omega))
  have rA := prR_later hbA h _ _ (prR_in rin h _ _ ra)
  have rB := prR_later hbA h _ _ (prR_in rin h _ _ rb)
  obtain ⟨t1, t2, t3, t4, t5, oa, caa, ob, cab, ea, fa1, fa2, ra1, ra2⟩ := rA
  obtain ⟨u1, u2, u3, u4, u5, pa, cba, pb, cbb, eb, fb1, fb2, rb1, rb2⟩ := rB
  simp only [List.cons.injEq, Value.slice.injEq, true_and, and_true] at ea eb
  obtain ⟨⟨rfl, rfl⟩, rfl, rfl⟩ := ea
  obtain ⟨⟨rfl, rfl⟩, rfl, rfl⟩ := eb
  have hdl := de_len ra2
  have HEQ := hide (eqDatas_any (F := t = u) hKP hp W (fun _ => []) (fun _ => []) (Keeps.refl _ _) hzero t.l u.l o1 p1 c1 d1 ra1 rb1 fa1.1 fb1.1 (by show 0 + _ ≤ _; omega))
  have HEXT : Hid (t.l = u.l → t.ds = u.ds → t = u) := fun h1 h2 => tr_ext (t1.trans u1.symm) (t2.trans u2.symm) (t3.trans u3.symm) (t4.trans u4.symm) h1 h2 (t5.trans u5.symm)
  have HR := hide (And.intro ra1 (And.intro ra2 (And.intro rb1 rb2)))
  have HF2 := hide (And.intro fa2 fb2)
  have HKP := hide hKP
  have HP := hide hp
  have HBA := hide hbA
  have HA := hide ha'
  have HB := hide hb'
  have x0 := cell_of ha' 0
  have y0 := cell_of hb' 0
  simp only [List.getElem?_toArray, List.getElem?_cons_zero] at x0 y0
  clear hKP hp hbA hzero hbW hbV ha hb ha' hb' rin ra rb hpl ra1 ra2 rb1 rb2 fa1 fa2 fb1 fb2 t1 t2 t3 t4 t5 u1 u2 u3 u4 u5
  go_enter Try.func9, Try.ntmps9
  go_wp2_with fail
  refine HEQ.out.mono ?_
  rintro e w1 ⟨b, rfl, hk, hf, ht⟩
  have HK := hide hk
  have HS1 := hide (below_keeps HBA.out hk)
  cases b
  · have HF := hide (hf rfl)
    clear hk hf ht
    go_wp2
    go_ret
    exact ⟨false, rfl, ⟨fun h9 => (by cases h9), fun h9 => absurd (by rw [h9]) HF.out⟩, HS1.out⟩
  obtain ⟨ls, ks, hh, hin, hl3, hgr, hlen, hok⟩ := ht rfl
  have hg1 := hgr (fun f => by rw [f])
  have hl1 := hg1.len 1 (by omega)
  have HG1 := hide hg1
  have HOK := hide hok
  have st : Stays (fun b => B ≤ b ∧ b < w.heap.size + 2) W w1 := (st_keeps hk).less HKP.out
  have HPU := hide (held_putAll_de o2 p2 c2 d2 (w.heap.size + 2) t.ds u.ds w1 (fun k => k < w.heap.size + 2) ls ks (KP := fun b => B ≤ b ∧ b < w.heap.size + 2) hh HKP.out (HR.out.2.1.frame st (fun _ h => h) (reads_frame st (fun _ h => h) h).2.1) (HR.out.2.2.2.frame st (fun _ h => h) (reads_frame st (fun _ h => h) h).2.1) HF2.out.1.1 HF2.out.2.1 (fun b hb => (HP.out b hb).block (hk.block b (HKP.out b hb))) (by simp only [List.length_nil] at hl1; omega))
  have x1 := cell_of ((hk.block w.heap.size (by show w.heap.size < w.heap.size + 2; omega)).trans HA.out) 1
  have y1 := cell_of ((hk.block (w.heap.size + 1) (by show w.heap.size + 1 < w.heap.size + 2; omega)).trans HB.out) 1
  simp only [List.getElem?_toArray, List.getElem?_cons_succ, List.getElem?_cons_zero] at x1 y1
  have HLEN := hide hlen
  clear hk hf ht hh hin hl3 hgr hlen hok hg1 hl1 st x0 y0
  go_wp2_with fail
  refine HPU.out.mono ?_
  rintro e w2 ⟨rfl, hm, hk2⟩
  have HS2 := hide (below_keeps HS1.out hk2)
  have HM := hide hm
  have HK2 := hide (HK.out.trans hk2)
  clear hm hk2 x1 y1
  by_cases hdl2 : t.ds.length = u.ds.length
  case neg =>
    have HNE := hide hdl2
    have hd : decide (t.ds.length = u.ds.length) = false := decide_eq_false hdl2
    rw [hd]
    clear hdl2 hd
    go_wp2
    go_ret
    exact ⟨false, rfl, ⟨fun h9 => (by cases h9), fun h9 => absurd (by rw [h9]) HNE.out⟩, HS2.out⟩
  have hd : decide (t.ds.length = u.ds.length) = true := decide_eq_true hdl2
  rw [hd]
  have hg2 := HG1.out.trans (grown_decs ls ks HR.out.2.1 HR.out.2.2.2 hdl2 (fun f => by rw [f]))
  have HG2 := hide hg2
  have HKD := hide (puts_kids (j := 1) (ks := ks) (ks' := upd ks 1 (ks 1 ++ puts (ks 1) o2 p2 9 t.ds.length u.ds.length)) HR.out.2.1 HR.out.2.2.2 hdl2 (upd_at ..))
  have HIN : Hid (∀ j, j < 4 → ∀ q ∈ ks j, q ∈ upd ks 1 (ks 1 ++ puts (ks 1) o2 p2 9 t.ds.length u.ds.length) j) := (grown_decs (F := t = u) ls ks HR.out.2.1 HR.out.2.2.2 hdl2 (fun f => by rw [f])).in
  have HDL := hide hdl2
  clear hdl2 hd hg2
  go_wp2_with fail
  refine (areSame_any (W := W) (K := fun k => k < w.heap.size + 2) (KP := fun b => B ≤ b ∧ b < w.heap.size + 2) (F := t = u) (g := w.heap.size + 2) HKP.out HP.out w2 _ _ _ HK2.out HM.out HG2.out.good hn).mono ?_
  rintro e w3 ⟨b, rfl, hk3, hf, ht⟩
  have HS3 := hide (below_keeps HBA.out hk3)
  have HF := hide hf
  have HT := hide ht
  clear hk3 hf ht
  go_wp2
  go_ret
  refine ⟨b, rfl, ⟨fun hb => ?_, fun he => ?_⟩, HS3.out⟩
  · obtain ⟨ks', hin, hd⟩ := HT.out hb
    refine HEXT.out (datas_eq hd HR.out.1 HR.out.2.2.1 HLEN.out fun k a b h1 h2 => ((HOK.out k a b h1 h2).more HIN.out).more hin) (kids_same (by omega) hd (HKD.out.more (hin 1 (by omega))) HDL.out)
  · cases b with
    | true => rfl
    | false => exact absurd he (HF.out rfl)
end Go.Proofs.Ytegcebeaelpjhaj
