/- The program's spread, netOfExp. -/
import Derived.Test.YtihjpkldefllgakGreatBM
import Derived.Test.YtihjpkldefllgakGreatBJ
namespace Go.Proofs.YtihjpkldefllgakGreat.Nm
open Go.ChangeShapes Go.WideShapes Go.ChangeAt Go.RowKit

/-- How far the places are looked at. -/
structure Spr (w0 : World) (K : Nat → Prop) (R : ByteArray → Prop) (T : Nat) (ks : List (Bool × Addr)) (i L : Nat) : Prop where
  bud : ∃ m, Bud w0 K R (ks.drop i) m ∧ i + L + m ≤ T
  done : ∀ k ∈ ks.take i, Kids w0 K ks k
  snd : ∀ k ∈ ks, Snd w0 K R T k
  le : i ≤ ks.length
theorem Spr.step {w0 : World} {K : Nat → Prop} {R : ByteArray → Prop} {T : Nat} {ks new kids : List (Bool × Addr)} {i L c m mk wk : Nat} {k : Bool × Addr} (h : Spr w0 K R T ks i L) (hi : ks[i]? = some k) (hm : Bud w0 K R (ks.drop (i + 1)) m) (hle : i + L + (wk + m) ≤ T) (hk : Bud w0 K R kids mk) (hkl : mk + 1 + c ≤ wk) (hs : new.Sublist kids) (hK : Kids w0 K (ks ++ new) k) (hsn : ∀ k ∈ kids, Snd w0 K R T k) : Spr w0 K R T (ks ++ new) (i + 1) (L + c) := by
  have hlt := (List.getElem?_eq_some_iff.1 hi).1
  refine ⟨⟨m + mk, ?_, by omega⟩, fun x hx => ?_, fun x hx => ?_, by rw [List.length_append]; omega⟩
  · rw [List.drop_append_of_le_length (by omega)]
    exact hm.join (hk.sub hs)
  · rw [List.take_append_of_le_length (by omega), List.take_succ_eq_append_getElem hlt] at hx
    rcases List.mem_append.1 hx with hx | hx
    · exact (h.done x hx).more fun y hy => List.mem_append_left _ hy
    · rw [List.mem_singleton] at hx
      have e : ks[i] = k := by
        have := List.getElem?_eq_getElem hlt
        rw [hi] at this
        exact (Option.some.inj this).symm
      rw [hx, e]
      exact hK
  · rcases List.mem_append.1 hx with hx | hx
    · exact h.snd x hx
    · exact hsn x (hs.subset hx)
theorem sum_le_sum (f g : Tr → Nat) : ∀ (l : List Tr), (∀ x ∈ l, f x ≤ g x) → (l.map f).sum ≤ (l.map g).sum := by
  intro l
  induction l with
  | nil => intro _; simp
  | cons a r ih =>
    intro hx
    have h1 := hx a (by simp)
    have h2 := ih fun x hm => hx x (by simp [hm])
    simp only [List.map_cons, List.sum_cons]
    omega
theorem len_le_sum (f : Tr → Nat) : ∀ (l : List Tr), (∀ x ∈ l, 1 ≤ f x) → l.length ≤ (l.map f).sum := by
  intro l
  induction l with
  | nil => intro _; simp
  | cons a r ih =>
    intro hx
    have h1 := hx a (by simp)
    have h2 := ih fun x hm => hx x (by simp [hm])
    simp only [List.map_cons, List.sum_cons, List.length_cons]
    omega
theorem al_len {w : World} {K : Nat → Prop} {a : Addr} {h : Nat} {t : Tr} (hat : AtP w K (true, a) h t) : t.l.length + t.ds.length + t.al.length ≤ (wgt h).ex t ∧ (∀ y ∈ t.al, y.ss.length ≤ (wgt h).ex t) ∧ (t.al.map fun a => a.ss.length).sum ≤ (wgt h).ex t := by
  obtain ⟨-, -, cs, -, -, r⟩ := hat
  cases h with
  | zero => exact r.elim
  | succ h =>
    obtain ⟨-, p1, d1, p2, d2, p3, d3, -, -, -, -, -, r1, r2, r3⟩ := r
    have h9 : ∀ x ∈ t.al, x.ss.length + 1 ≤ (wgt h).al x := fun x hx => by
      obtain ⟨i, hi⟩ := List.mem_iff_getElem?.1 hx
      obtain ⟨e, h', e1, e2, -, hat'⟩ := al_at r3 i x hi
      subst e2
      show x.ss.length + 1 ≤ x.ss.length + (x.l.map fun c => 1 + (wgt h').ex c).sum
      rw [e1]
      simp
    have hw : (wgt (h + 1)).ex t = 1 + (t.l.length + (t.l.map (wgt h).ex).sum) + (t.ds.length + (t.ds.map (wgt h).de).sum) + (t.al.map (wgt h).al).sum := by
      show 1 + (t.l.map fun c => 1 + (wgt h).ex c).sum + (t.ds.map fun c => 1 + (wgt h).de c).sum + (t.al.map (wgt h).al).sum = _
      rw [sum_one, sum_one]
    refine ⟨?_, fun y hy => ?_, ?_⟩
    · have := len_le_sum (wgt h).al t.al fun x hx => by have := h9 x hx; omega
      omega
    · have h1 := h9 y hy
      have h2 := sum_mem_le (wgt h).al t.al y hy
      omega
    · have h2 : (t.al.map fun a => a.ss.length).sum ≤ (t.al.map (wgt h).al).sum := sum_le_sum _ _ t.al fun x hx => by have := h9 x hx; omega
      omega
theorem de_len (h : Nat) (t : Tr) : t.ss.length + t.ds.length ≤ (wgt (h + 1)).de t := by
  show _ ≤ 1 + t.ss.length + (t.l.map fun c => 1 + (wgt h).ex c).sum + (t.ds.map fun c => 1 + (wgt h).de c).sum
  rw [sum_one, sum_one]
  omega
set_option maxHeartbeats 2000000 in
set_option maxRecDepth 100000 in
theorem spread_any {KP KS K : Nat → Prop} {w0 w : World} {R : ByteArray → Prop} {n T L : Nat} {ks : List (Bool × Addr)} (hN : Net KP KS w n ks L) (hst : Stays K w0 w) (hK : ∀ b, K b → KP b ∧ b < w0.heap.size) (hS : Spr w0 K R T ks 0 L) (hT : T ≤ 5000000) :
    Calls Tryz.prog 38 #[.pointer (some ⟨n, 0, none⟩)] w fun e w' => ∃ new L', e = .returned (.tuple #[]) ∧ Net KP KS w' n (ks ++ new) L' ∧ Spr w0 K R T (ks ++ new) (ks ++ new).length L' ∧ Keeps KS w w' := by
  have HN := hide hN
  have HS := hide hS
  have HST := hide hst
  have HK := hide hK
  have HKP : Hid (∀ b, KP b → KS b) := by obtain ⟨_, _, _, _, _, _, h9⟩ := hN; exact fun b hb => (h9.plain b hb).1
  clear hN hS hst hK
  go_enter Tryz.func38, Tryz.ntmps38
  go_wp2
  go_loopw [2] (fun t2 wr => ∃ (i : Nat) (new : List (Bool × Addr)) (L' : Nat), t2 = .int .i64 i ∧ Net KP KS wr n (ks ++ new) L' ∧ Spr w0 K R T (ks ++ new) i L' ∧ Keeps KS w wr) (fun t2 _ => T - (intOf t2).toNat)
  case atStart => exact ⟨0, [], L, rfl, by rw [List.append_nil]; exact HN.out, by rw [List.append_nil]; exact HS.out, Keeps.refl _ _⟩
  case round =>
    obtain ⟨i, new, L', rfl, hN, hS, hkp⟩ := hrel
    have HNR := hide hN
    have HSR := hide hS
    have HKR := hide hkp
    have hile := hS.le
    have HLT : Hid (∀ b, KS b → b < wr.heap.size) := by obtain ⟨_, _, _, _, _, _, h9⟩ := hN; exact h9.kslt
    obtain ⟨m, hbud, hmt⟩ := hS.bud
    have hkl : (ks ++ new).length ≤ i + m := by
      have := hbud.len
      rw [List.length_drop] at this
      omega
    generalize hks : ks ++ new = kk at *
    have HKS := hide hks
    clear hks
    by_cases hlt : i < kk.length
    · obtain ⟨k, hki⟩ : ∃ k, kk[i]? = some k := ⟨kk[i], List.getElem?_eq_getElem hlt⟩
      obtain ⟨g, c, ov, nv, cv, z, hlc, z0, z1, z2, z3⟩ := hN.place hki
      have hbud2 := hbud
      rw [List.drop_eq_getElem_cons hlt] at hbud2
      have ek : kk[i] = k := by
        have := List.getElem?_eq_getElem hlt
        rw [hki] at this
        exact (Option.some.inj this).symm
      rw [ek] at hbud2
      obtain ⟨h, t, m2, ⟨hat, hsn⟩, hw, hrest⟩ := hbud2
      have hstr : Stays K w0 wr := ⟨Nat.le_trans HST.out.size hkp.size, fun b hb hl => (hkp.block b (HKP.out b (HK.out b hb).1)).trans (HST.out.block b hb hl)⟩
      obtain ⟨kb, a⟩ := k
      have HKI := hide hki
      have HAT := hide hat
      have HSN := hide hsn
      have HREST := hide hrest
      have hwp := wgt_pos hat
      obtain ⟨hsp, hka, cs, hca, hcl, hrd⟩ := hat
      cases kb
      · have hbb : Below wr.heap.size wr (wr.alloc (.cells #[.pointer none, .pointer (some a), .slice ov nv cv, .int .i64 0] 94)) := (Below.refl _ wr).alloc (Nat.le_refl _) _
        have hst2 : Stays K w0 (wr.alloc (.cells #[.pointer none, .pointer (some a), .slice ov nv cv, .int .i64 0] 94)) := hstr.trans (Stays.of hbb)
        cases h with
        | zero => exact hrd.elim
        | succ h =>
          simp only [Bool.false_eq_true, if_false] at hcl hrd z0 z1
          have hl1 := de_len h t
          have hw' : (wgt (h + 1)).de t + m2 ≤ m := hw
          obtain ⟨o2, x2, hcall⟩ := spreadDec_any (hN.later hbb) t cs a hsp (fun j u hu => (World.cell?_of_block (a := ⟨a.block, _, none⟩) (hst2.block a.block hka (HK.out a.block hka).2)).trans (hca j u hu)) hcl ((reads_frame hst2 (fun _ h => h) (h + 1)).2.1 _ _ hrd) hka (fun b hb => (HK.out b hb).1) i (by omega) (by omega) (by omega) (by omega)
          have HCALL := hide hcall
          have HKIDS := hide (dec_kids (R := R) hca hka hrd x2 HAT.out HSN.out (N := T) (by omega))
          have hdn : ((some a : Option Addr) = none) = False := by simp
          clear hN hS hkp hbud hca hrd hcall hst2 hstr hbb hrest hsn hki x2
          go_wp2_with fail
          refine Calls.mono HCALL.out ?_
          rintro e w2 ⟨nw, rfl, hN2, hsub, hm1, hm2, hkp2⟩
          obtain ⟨⟨mk, hbk, hmk⟩, hkd, hsk⟩ := HKIDS.out
          have HSP : Hid (Spr w0 K R T (kk ++ nw) (i + 1) (L' + 1 + t.ds.length)) := by
            have h9 := HSR.out.step (c := 1 + t.ds.length) (wk := (wgt (h + 1)).de t) HKI.out HREST.out (by omega) hbk (by omega) hsub (hkd _ hm1 hm2) hsk
            have e9 : L' + (1 + t.ds.length) = L' + 1 + t.ds.length := by omega
            rw [e9] at h9
            exact h9
          have HN2 := hide hN2
          have HKP2 : Hid (Keeps KS w w2) := HKR.out.trans ((keeps_of ((Below.refl _ wr).alloc (Nat.le_refl _) _) HLT.out).trans hkp2)
          clear hN2 hsub hm1 hm2 hkp2 hbk hmk hkd hsk z z0 z1 z2 z3
          go_wp2
          go_roundw
          case rel =>
            refine ⟨i + 1, new ++ nw, L' + 1 + t.ds.length, by go_num, ?_, ?_, HKP2.out⟩
            · rw [← List.append_assoc, HKS.out]; exact HN2.out
            · rw [← List.append_assoc, HKS.out]; exact HSP.out
          case measure => simp [intOf]; omega
      · have hbb : Below wr.heap.size wr (wr.alloc (.cells #[.pointer (some a), .pointer none, .slice ov nv cv, .int .i64 0] 94)) := (Below.refl _ wr).alloc (Nat.le_refl _) _
        have hst2 : Stays K w0 (wr.alloc (.cells #[.pointer (some a), .pointer none, .slice ov nv cv, .int .i64 0] 94)) := hstr.trans (Stays.of hbb)
        cases h with
        | zero => exact hrd.elim
        | succ h =>
          simp only [if_true] at hcl hrd z0 z1
          obtain ⟨hl1, hl2, -⟩ := al_len HAT.out
          have hw' : (wgt (h + 1)).ex t + m2 ≤ m := hw
          obtain ⟨o1, o2, o3, x1, x2, x3, hcall⟩ := spreadExp_any (hN.later hbb) t cs a hsp (fun j u hu => (World.cell?_of_block (a := ⟨a.block, _, none⟩) (hst2.block a.block hka (HK.out a.block hka).2)).trans (hca j u hu)) ((reads_frame hst2 (fun _ h => h) (h + 1)).1 _ _ hrd) hka (fun b hb => (HK.out b hb).1) i (by omega) (fun y hy => by have := hl2 y hy; omega) (by omega) (by omega)
          have HCALL := hide hcall
          have HKIDS := hide (exp_kids (R := R) hrd x1 x2 x3 HAT.out HSN.out (N := T) (by omega))
          clear hN hS hkp hbud hca hrd hcall hst2 hstr hbb hrest hsn hki x1 x2 x3
          go_wp2_with fail
          refine Calls.mono HCALL.out ?_
          rintro e w2 ⟨nw, rfl, hN2, hsub, hmem, hkp2⟩
          obtain ⟨⟨mk, hbk, hmk⟩, hkd, hsk⟩ := HKIDS.out
          have HSP : Hid (Spr w0 K R T (kk ++ nw) (i + 1) (L' + t.l.length + t.ds.length + t.al.length)) := by
            have h9 := HSR.out.step (c := t.l.length + t.ds.length + t.al.length) (wk := (wgt (h + 1)).ex t) HKI.out HREST.out (by omega) hbk (by omega) hsub (hkd _ hmem) hsk
            have e9 : L' + (t.l.length + t.ds.length + t.al.length) = L' + t.l.length + t.ds.length + t.al.length := by omega
            rw [e9] at h9
            exact h9
          have HN2 := hide hN2
          have HKP2 : Hid (Keeps KS w w2) := HKR.out.trans ((keeps_of ((Below.refl _ wr).alloc (Nat.le_refl _) _) HLT.out).trans hkp2)
          clear hN2 hsub hmem hkp2 hbk hmk hkd hsk z z0 z1 z2 z3
          go_wp2
          go_roundw
          case rel =>
            refine ⟨i + 1, new ++ nw, L' + t.l.length + t.ds.length + t.al.length, by go_num, ?_, ?_, HKP2.out⟩
            · rw [← List.append_assoc, HKS.out]; exact HN2.out
            · rw [← List.append_assoc, HKS.out]; exact HSP.out
          case measure => simp [intOf]; omega
    · have hie : i = kk.length := by omega
      obtain ⟨o, c, z⟩ := hN.len0
      clear hN hS hkp hbud
      go_wp2
      go_end0
      refine ⟨new, L', rfl, by rw [HKS.out]; exact HNR.out, ?_, HKR.out⟩
      rw [HKS.out, ← hie]
      exact HSR.out
end Go.Proofs.YtihjpkldefllgakGreat.Nm
