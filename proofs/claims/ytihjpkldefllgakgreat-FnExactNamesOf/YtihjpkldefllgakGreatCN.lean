/- The program's spread, for names that are bound or asked for. -/
import Derived.Test.YtihjpkldefllgakGreatCL
import Derived.Test.YtihjpkldefllgakGreatBN
namespace Go.Proofs.YtihjpkldefllgakGreat.Nm
open Go.ChangeShapes Go.WideShapes Go.ChangeAt Go.RowKit

/-- How far the places are looked at. -/
structure Spr2 (w0 : World) (K : Nat → Prop) (R : ByteArray → Prop) (T : Nat) (ks : List (Bool × Addr)) (i L : Nat) : Prop where
  bud : ∃ m, Bud2 w0 K R (ks.drop i) m ∧ i + L + m ≤ T
  done : ∀ k ∈ ks.take i, Kids w0 K ks k
  snd : ∀ k ∈ ks, Snd2 w0 K R T k
  le : i ≤ ks.length
theorem Spr2.step {w0 : World} {K : Nat → Prop} {R : ByteArray → Prop} {T : Nat} {ks new kids : List (Bool × Addr)} {i L c m mk wk : Nat} {k : Bool × Addr} (h : Spr2 w0 K R T ks i L) (hi : ks[i]? = some k) (hm : Bud2 w0 K R (ks.drop (i + 1)) m) (hle : i + L + (wk + m) ≤ T) (hk : Bud2 w0 K R kids mk) (hkl : mk + 1 + c ≤ wk) (hs : new.Sublist kids) (hK : Kids w0 K (ks ++ new) k) (hsn : ∀ k ∈ kids, Snd2 w0 K R T k) : Spr2 w0 K R T (ks ++ new) (i + 1) (L + c) := by
  have hlt := (List.getElem?_eq_some_iff.1 hi).1
  refine ⟨⟨m + mk, ?_, by omega⟩, fun x hx => ?_, fun x hx => ?_, by rw [List.length_append]; omega⟩
  · rw [List.drop_append_of_le_length (by omega)]
    exact hm.join (hk.sub hs)
  · rw [List.take_append_of_le_length (by omega), List.take_succ_eq_append_getElem hlt] at hx
    rcases List.mem_append.1 hx with hx | hx
    · exact (h.done x hx).more fun y hy => List.mem_append_left _ hy
    · rw [List.mem_singleton] at hx
      have e : ks[i] = k := by
        have := List.getElem?_eq_getElem hlt
        rw [hi] at this
        exact (Option.some.inj this).symm
      rw [hx, e]
      exact hK
  · rcases List.mem_append.1 hx with hx | hx
    · exact h.snd x hx
    · exact hsn x (hs.subset hx)
set_option maxHeartbeats 2000000 in
set_option maxRecDepth 100000 in
theorem spread_any2 {KP KS K : Nat → Prop} {w0 w : World} {R : ByteArray → Prop} {n T L : Nat} {ks : List (Bool × Addr)} (hN : Net KP KS w n ks L) (hst : Stays K w0 w) (hK : ∀ b, K b → KP b ∧ b < w0.heap.size) (hS : Spr2 w0 K R T ks 0 L) (hT : T ≤ 5000000) :
    Calls Tryz.prog 38 #[.pointer (some ⟨n, 0, none⟩)] w fun e w' => ∃ new L', e = .returned (.tuple #[]) ∧ Net KP KS w' n (ks ++ new) L' ∧ Spr2 w0 K R T (ks ++ new) (ks ++ new).length L' ∧ Keeps KS w w' := by
  have HN := hide hN
  have HS := hide hS
  have HST := hide hst
  have HK := hide hK
  have HKP : Hid (∀ b, KP b → KS b) := by obtain ⟨_, _, _, _, _, _, h9⟩ := hN; exact fun b hb => (h9.plain b hb).1
  clear hN hS hst hK
  go_enter Tryz.func38, Tryz.ntmps38
  go_wp2
  go_loopw [2] (fun t2 wr => ∃ (i : Nat) (new : List (Bool × Addr)) (L' : Nat), t2 = .int .i64 i ∧ Net KP KS wr n (ks ++ new) L' ∧ Spr2 w0 K R T (ks ++ new) i L' ∧ Keeps KS w wr) (fun t2 _ => T - (intOf t2).toNat)
  case atStart => exact ⟨0, [], L, rfl, by rw [List.append_nil]; exact HN.out, by rw [List.append_nil]; exact HS.out, Keeps.refl _ _⟩
  case round =>
    obtain ⟨i, new, L', rfl, hN, hS, hkp⟩ := hrel
    have HNR := hide hN
    have HSR := hide hS
    have HKR := hide hkp
    have hile := hS.le
    have HLT : Hid (∀ b, KS b → b < wr.heap.size) := by obtain ⟨_, _, _, _, _, _, h9⟩ := hN; exact h9.kslt
    obtain ⟨m, hbud, hmt⟩ := hS.bud
    have hkl : (ks ++ new).length ≤ i + m := by
      have := hbud.len
      rw [List.length_drop] at this
      omega
    generalize hks : ks ++ new = kk at *
    have HKS := hide hks
    clear hks
    by_cases hlt : i < kk.length
    · obtain ⟨k, hki⟩ : ∃ k, kk[i]? = some k := ⟨kk[i], List.getElem?_eq_getElem hlt⟩
      obtain ⟨g, c, ov, nv, cv, z, hlc, z0, z1, z2, z3⟩ := hN.place hki
      have hbud2 := hbud
      rw [List.drop_eq_getElem_cons hlt] at hbud2
      have ek : kk[i] = k := by
        have := List.getElem?_eq_getElem hlt
        rw [hki] at this
        exact (Option.some.inj this).symm
      rw [ek] at hbud2
      obtain ⟨h, t, m2, ⟨hat, hsn⟩, hw, hrest⟩ := hbud2
      have hstr : Stays K w0 wr := ⟨Nat.le_trans HST.out.size hkp.size, fun b hb hl => (hkp.block b (HKP.out b (HK.out b hb).1)).trans (HST.out.block b hb hl)⟩
      obtain ⟨kb, a⟩ := k
      have HKI := hide hki
      have HAT := hide hat
      have HSN := hide hsn
      have HREST := hide hrest
      have hwp := wgt_pos hat
      obtain ⟨hsp, hka, cs, hca, hcl, hrd⟩ := hat
      cases kb
      · have hbb : Below wr.heap.size wr (wr.alloc (.cells #[.pointer none, .pointer (some a), .slice ov nv cv, .int .i64 0] 94)) := (Below.refl _ wr).alloc (Nat.le_refl _) _
        have hst2 : Stays K w0 (wr.alloc (.cells #[.pointer none, .pointer (some a), .slice ov nv cv, .int .i64 0] 94)) := hstr.trans (Stays.of hbb)
        cases h with
        | zero => exact hrd.elim
        | succ h =>
          simp only [Bool.false_eq_true, if_false] at hcl hrd z0 z1
          have hl1 := de_len h t
          have hw' : (wgt (h + 1)).de t + m2 ≤ m := hw
          obtain ⟨o2, x2, hcall⟩ := spreadDec_any (hN.later hbb) t cs a hsp (fun j u hu => (World.cell?_of_block (a := ⟨a.block, _, none⟩) (hst2.block a.block hka (HK.out a.block hka).2)).trans (hca j u hu)) hcl ((reads_frame hst2 (fun _ h => h) (h + 1)).2.1 _ _ hrd) hka (fun b hb => (HK.out b hb).1) i (by omega) (by omega) (by omega) (by omega)
          have HCALL := hide hcall
          have HKIDS := hide (dec_kids2 (R := R) hca hka hrd x2 HAT.out HSN.out (N := T) (by omega))
          have hdn : ((some a : Option Addr) = none) = False := by simp
          clear hN hS hkp hbud hca hrd hcall hst2 hstr hbb hrest hsn hki x2
          go_wp2_with fail
          refine Calls.mono HCALL.out ?_
          rintro e w2 ⟨nw, rfl, hN2, hsub, hm1, hm2, hkp2⟩
          obtain ⟨⟨mk, hbk, hmk⟩, hkd, hsk⟩ := HKIDS.out
          have HSP : Hid (Spr2 w0 K R T (kk ++ nw) (i + 1) (L' + 1 + t.ds.length)) := by
            have h9 := HSR.out.step (c := 1 + t.ds.length) (wk := (wgt (h + 1)).de t) HKI.out HREST.out (by omega) hbk (by omega) hsub (hkd _ hm1 hm2) hsk
            have e9 : L' + (1 + t.ds.length) = L' + 1 + t.ds.length := by omega
            rw [e9] at h9
            exact h9
          have HN2 := hide hN2
          have HKP2 : Hid (Keeps KS w w2) := HKR.out.trans ((keeps_of ((Below.refl _ wr).alloc (Nat.le_refl _) _) HLT.out).trans hkp2)
          clear hN2 hsub hm1 hm2 hkp2 hbk hmk hkd hsk z z0 z1 z2 z3
          go_wp2
          go_roundw
          case rel =>
            refine ⟨i + 1, new ++ nw, L' + 1 + t.ds.length, by go_num, ?_, ?_, HKP2.out⟩
            · rw [← List.append_assoc, HKS.out]; exact HN2.out
            · rw [← List.append_assoc, HKS.out]; exact HSP.out
          case measure => simp [intOf]; omega
      · have hbb : Below wr.heap.size wr (wr.alloc (.cells #[.pointer (some a), .pointer none, .slice ov nv cv, .int .i64 0] 94)) := (Below.refl _ wr).alloc (Nat.le_refl _) _
        have hst2 : Stays K w0 (wr.alloc (.cells #[.pointer (some a), .pointer none, .slice ov nv cv, .int .i64 0] 94)) := hstr.trans (Stays.of hbb)
        cases h with
        | zero => exact hrd.elim
        | succ h =>
          simp only [if_true] at hcl hrd z0 z1
          obtain ⟨hl1, hl2, -⟩ := al_len HAT.out
          have hw' : (wgt (h + 1)).ex t + m2 ≤ m := hw
          obtain ⟨o1, o2, o3, x1, x2, x3, hcall⟩ := spreadExp_any (hN.later hbb) t cs a hsp (fun j u hu => (World.cell?_of_block (a := ⟨a.block, _, none⟩) (hst2.block a.block hka (HK.out a.block hka).2)).trans (hca j u hu)) ((reads_frame hst2 (fun _ h => h) (h + 1)).1 _ _ hrd) hka (fun b hb => (HK.out b hb).1) i (by omega) (fun y hy => by have := hl2 y hy; omega) (by omega) (by omega)
          have HCALL := hide hcall
          have HKIDS := hide (exp_kids2 (R := R) hrd x1 x2 x3 HAT.out HSN.out (N := T) (by omega))
          clear hN hS hkp hbud hca hrd hcall hst2 hstr hbb hrest hsn hki x1 x2 x3
          go_wp2_with fail
          refine Calls.mono HCALL.out ?_
          rintro e w2 ⟨nw, rfl, hN2, hsub, hmem, hkp2⟩
          obtain ⟨⟨mk, hbk, hmk⟩, hkd, hsk⟩ := HKIDS.out
          have HSP : Hid (Spr2 w0 K R T (kk ++ nw) (i + 1) (L' + t.l.length + t.ds.length + t.al.length)) := by
            have h9 := HSR.out.step (c := t.l.length + t.ds.length + t.al.length) (wk := (wgt (h + 1)).ex t) HKI.out HREST.out (by omega) hbk (by omega) hsub (hkd _ hmem) hsk
            have e9 : L' + (t.l.length + t.ds.length + t.al.length) = L' + t.l.length + t.ds.length + t.al.length := by omega
            rw [e9] at h9
            exact h9
          have HN2 := hide hN2
          have HKP2 : Hid (Keeps KS w w2) := HKR.out.trans ((keeps_of ((Below.refl _ wr).alloc (Nat.le_refl _) _) HLT.out).trans hkp2)
          clear hN2 hsub hmem hkp2 hbk hmk hkd hsk z z0 z1 z2 z3
          go_wp2
          go_roundw
          case rel =>
            refine ⟨i + 1, new ++ nw, L' + t.l.length + t.ds.length + t.al.length, by go_num, ?_, ?_, HKP2.out⟩
            · rw [← List.append_assoc, HKS.out]; exact HN2.out
            · rw [← List.append_assoc, HKS.out]; exact HSP.out
          case measure => simp [intOf]; omega
    · have hie : i = kk.length := by omega
      obtain ⟨o, c, z⟩ := hN.len0
      clear hN hS hkp hbud
      go_wp2
      go_end0
      refine ⟨new, L', rfl, by rw [HKS.out]; exact HNR.out, ?_, HKR.out⟩
      rw [HKS.out, ← hie]
      exact HSR.out
end Go.Proofs.YtihjpkldefllgakGreat.Nm
