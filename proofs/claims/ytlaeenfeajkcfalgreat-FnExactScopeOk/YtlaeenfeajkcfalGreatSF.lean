/- Made of VN, VO, VP. -/
import Derived.Test.YtlaeenfeajkcfalGreatVM
import Derived.Test.YtlaeenfeajkcfalGreatVJ
import Derived.Maps.OwnSet
namespace Go.Proofs.YtlaeenfeajkcfalGreat.Fr
open Go.ChangeShapes Go.WideShapes Go.ChangeAt Go.RowKit Go.Proofs.YtlaeenfeajkcfalGreat.Nm
set_option linter.unusedVariables false

/-- How far the places are looked at. -/
structure Spr (w0 : World) (K : Nat → Prop) (R : ByteArray → Prop) (T : Nat) (ks : List (Bool × Addr)) (i L : Nat) : Prop where
  bud : ∃ m, Bud w0 K R (ks.drop i) m ∧ i + L + m ≤ T
  done : ∀ k ∈ ks.take i, Kids w0 K ks k
  snd : ∀ k ∈ ks, Snd w0 K R T k
  le : i ≤ ks.length
theorem Spr.step {w0 : World} {K : Nat → Prop} {R : ByteArray → Prop} {T : Nat} {ks new kids : List (Bool × Addr)} {i L c m mk wk : Nat} {k : Bool × Addr} (h : Spr w0 K R T ks i L) (hi : ks[i]? = some k) (hm : Bud w0 K R (ks.drop (i + 1)) m) (hle : i + L + (wk + m) ≤ T) (hk : Bud w0 K R kids mk) (hkl : mk + 1 + c ≤ wk) (hs : new.Sublist kids) (hK : Kids w0 K (ks ++ new) k) (hsn : ∀ k ∈ kids, Snd w0 K R T k) : Spr w0 K R T (ks ++ new) (i + 1) (L + c) := by
  have hlt := (List.getElem?_eq_some_iff.1 hi).1
  refine ⟨⟨m + mk, ?_, by omega⟩, fun x hx => ?_, fun x hx => ?_, by rw [List.length_append]; omega⟩
  · rw [List.drop_append_of_le_length (by omega)]
    exact hm.join (hk.sub hs)
  · rw [List.take_append_of_le_length (by omega), List.take_succ_eq_append_getElem hlt] at hx
    rcases List.mem_append.1 hx with hx | hx
    · exact (h.done x hx).more fun y hy => List.mem_append_left _ hy
    · rw [List.mem_singleton] at hx
      have e : ks[i] = k := by
        have := List.getElem?_eq_getElem hlt
        rw [hi] at this
        exact (Option.some.inj this).symm
      rw [hx, e]
      exact hK
  · rcases List.mem_append.1 hx with hx | hx
    · exact h.snd x hx
    · exact hsn x (hs.subset hx)
/-- Each way that was led is one from a tree to its part, and binds what binds there; of what was looked at none is left out. -/
structure SprW (w0 : World) (K : Nat → Prop) (T : Nat) (ks : List (Bool × Addr)) (i : Nat) (G : Log) : Prop where
  base : Spr w0 K (fun _ => True) T ks i G.length
  sound : ∀ g ∈ G, ∃ kf ki hf tf hi ti B, ks[g.2.1]? = some kf ∧ ks[g.1]? = some ki ∧ AtP w0 K kf hf tf ∧ AtP w0 K ki hi ti ∧ Part kf.1 tf ki.1 ti B ∧ SameB g.2.2 B
  whole : ∀ f kf hf tf, f < i → ks[f]? = some kf → AtP w0 K kf hf tf → ∀ b' c B, Part kf.1 tf b' c B → ∃ g ∈ G, g.2.1 = f ∧ SameB g.2.2 B ∧ ∃ ki h', ks[g.1]? = some ki ∧ ki.1 = b' ∧ AtP w0 K ki h' c
theorem SprW.step {w0 : World} {K : Nat → Prop} {T : Nat} {ks new : List (Bool × Addr)} {i : Nat} {G D : Log} {k : Bool × Addr} {h : Nat} {t : Tr} {kd : List ((Bool × Addr) × List ByteArray)} (hs : SprW w0 K T ks i G) (hb : Spr w0 K (fun _ => True) T (ks ++ new) (i + 1) (G ++ D).length) (hi : ks[i]? = some k) (hat : AtP w0 K k h t) (hkd : KdOf w0 K k.1 t kd) (hl : LedBy (ks ++ new) i kd D) : SprW w0 K T (ks ++ new) (i + 1) (G ++ D) := by
  have e : ∀ (j : Nat) (q : Bool × Addr), ks[j]? = some q → (ks ++ new)[j]? = some q := fun j q hq => by rw [List.getElem?_append_left (List.getElem?_eq_some_iff.1 hq).1]; exact hq
  refine ⟨hb, fun g hg => ?_, fun f kf hf tf hfi hkf hatf b' c B hp => ?_⟩
  · rcases List.mem_append.1 hg with hg | hg
    · obtain ⟨kf, ki, hf, tf, h2, ti, B, e1, e2, e3⟩ := hs.sound g hg
      exact ⟨kf, ki, hf, tf, h2, ti, B, e _ _ e1, e _ _ e2, e3⟩
    · obtain ⟨q, hq, e1, e2, e3⟩ := hl.1 g hg
      obtain ⟨h', c, hac, hpc⟩ := hkd.1 q hq
      exact ⟨k, q.1, h, t, h', c, q.2, by rw [e2]; exact e _ _ hi, e1, hat, hac, hpc, e3⟩
  · by_cases hlt : f < i
    · have hkf2 : ks[f]? = some kf := by
        have hle := hs.base.le
        rw [List.getElem?_append_left (by omega)] at hkf
        exact hkf
      obtain ⟨g, hg, e1, e2, ki, h', e3, e4, e5⟩ := hs.whole f kf hf tf hlt hkf2 hatf b' c B hp
      exact ⟨g, List.mem_append_left _ hg, e1, e2, ki, h', e _ _ e3, e4, e5⟩
    · have hfe : f = i := by omega
      subst hfe
      have hk2 : kf = k := by
        rw [e _ _ hi] at hkf
        exact (Option.some.inj hkf).symm
      subst hk2
      have et := at_fun hatf hat
      subst et
      obtain ⟨q, hq, rfl, rfl, h', hac⟩ := hkd.2 b' c B hp
      obtain ⟨g, hg, e1, e2, e3⟩ := hl.2 q hq
      exact ⟨g, List.mem_append_right _ hg, e2, e3, q.1, h', e1, rfl, hac⟩
theorem keys_dec {a : Addr} {B : List ByteArray} {rs : List Addr} {k : Bool × Addr} (h : k ∈ (true, a) :: rs.map fun a => (false, a)) : ∃ q ∈ (((true, a), B) :: rs.map fun a => ((false, a), B) : List ((Bool × Addr) × List ByteArray)), q.1 = k := by
  rcases List.mem_cons.1 h with h | h
  · exact ⟨_, List.mem_cons_self .., h.symm⟩
  · obtain ⟨b, hb, rfl⟩ := List.mem_map.1 h
    exact ⟨((false, b), B), List.mem_cons_of_mem _ (List.mem_map.2 ⟨b, hb, rfl⟩), rfl⟩
theorem keys_exp {o1 o2 o3 : Option Addr} {t : Tr} {k : Bool × Addr} (h : k ∈ kidsE o1 o2 o3 t.l.length t.ds.length t.al.length) : ∃ q ∈ kidsW o1 o2 o3 t, q.1 = k := by
  unfold kidsE at h
  unfold kidsW
  rcases List.mem_append.1 h with h | h
  · rcases List.mem_append.1 h with h | h
    · obtain ⟨b, hb, rfl⟩ := List.mem_map.1 h
      exact ⟨((true, b), bE t), List.mem_append_left _ (List.mem_append_left _ (List.mem_map.2 ⟨b, hb, rfl⟩)), rfl⟩
    · obtain ⟨b, hb, rfl⟩ := List.mem_map.1 h
      exact ⟨((false, b), bD t), List.mem_append_left _ (List.mem_append_right _ (List.mem_map.2 ⟨b, hb, rfl⟩)), rfl⟩
  · obtain ⟨b, hb, rfl⟩ := List.mem_map.1 h
    obtain ⟨i, hi, rfl⟩ := List.mem_map.1 hb
    exact ⟨((true, ⟨bOf o3, fOf o3 + i * 8 + 2, none⟩), ((t.al.map Tr.ss)[i]?).getD []), List.mem_append_right _ (List.mem_map.2 ⟨i, hi, rfl⟩), rfl⟩
theorem sum_le_sum (f g : Tr → Nat) : ∀ (l : List Tr), (∀ x ∈ l, f x ≤ g x) → (l.map f).sum ≤ (l.map g).sum := by
  intro l
  induction l with
  | nil => intro _; simp
  | cons a r ih =>
    intro hx
    have h1 := hx a (by simp)
    have h2 := ih fun x hm => hx x (by simp [hm])
    simp only [List.map_cons, List.sum_cons]
    omega
theorem len_le_sum (f : Tr → Nat) : ∀ (l : List Tr), (∀ x ∈ l, 1 ≤ f x) → l.length ≤ (l.map f).sum := by
  intro l
  induction l with
  | nil => intro _; simp
  | cons a r ih =>
    intro hx
    have h1 := hx a (by simp)
    have h2 := ih fun x hm => hx x (by simp [hm])
    simp only [List.map_cons, List.sum_cons, List.length_cons]
    omega
theorem al_len {w : World} {K : Nat → Prop} {a : Addr} {h : Nat} {t : Tr} (hat : AtP w K (true, a) h t) : t.l.length + t.ds.length + t.al.length ≤ (wgt h).ex t ∧ (∀ y ∈ t.al, y.ss.length ≤ (wgt h).ex t) ∧ (t.al.map fun a => a.ss.length).sum ≤ (wgt h).ex t := by
  obtain ⟨-, -, cs, -, -, r⟩ := hat
  cases h with
  | zero => exact r.elim
  | succ h =>
    obtain ⟨-, p1, d1, p2, d2, p3, d3, -, -, -, -, -, r1, r2, r3⟩ := r
    have h9 : ∀ x ∈ t.al, x.ss.length + 1 ≤ (wgt h).al x := fun x hx => by
      obtain ⟨i, hi⟩ := List.mem_iff_getElem?.1 hx
      obtain ⟨e, h', e1, e2, -, hat'⟩ := al_at r3 i x hi
      subst e2
      show x.ss.length + 1 ≤ x.ss.length + (x.l.map fun c => 1 + (wgt h').ex c).sum
      rw [e1]
      simp
    have hw : (wgt (h + 1)).ex t = 1 + (t.l.length + (t.l.map (wgt h).ex).sum) + (t.ds.length + (t.ds.map (wgt h).de).sum) + (t.al.map (wgt h).al).sum := by
      show 1 + (t.l.map fun c => 1 + (wgt h).ex c).sum + (t.ds.map fun c => 1 + (wgt h).de c).sum + (t.al.map (wgt h).al).sum = _
      rw [sum_one, sum_one]
    refine ⟨?_, fun y hy => ?_, ?_⟩
    · have := len_le_sum (wgt h).al t.al fun x hx => by have := h9 x hx; omega
      omega
    · have h1 := h9 y hy
      have h2 := sum_mem_le (wgt h).al t.al y hy
      omega
    · have h2 : (t.al.map fun a => a.ss.length).sum ≤ (t.al.map (wgt h).al).sum := sum_le_sum _ _ t.al fun x hx => by have := h9 x hx; omega
      omega
theorem de_len (h : Nat) (t : Tr) : t.ss.length + t.ds.length ≤ (wgt (h + 1)).de t := by
  show _ ≤ 1 + t.ss.length + (t.l.map fun c => 1 + (wgt h).ex c).sum + (t.ds.map fun c => 1 + (wgt h).de c).sum
  rw [sum_one, sum_one]
  omega
set_option maxHeartbeats 2000000 in
set_option maxRecDepth 100000 in
theorem spread_any {KP KS K : Nat → Prop} {w0 w : World} {n T : Nat} {G : Log} {ks : List (Bool × Addr)} (hN : Net KP KS w n ks G) (hst : Stays K w0 w) (hK : ∀ b, K b → KP b ∧ b < w0.heap.size) (hS : SprW w0 K T ks 0 G) {Q : Bool → Tr → Prop} (hQ : ∀ b t b' c B, Part b t b' c B → Q b t → Q b' c) (hQ0 : ∀ k ∈ ks, ∃ h t, AtP w0 K k h t ∧ Q k.1 t) (hT : T ≤ 5000000) :
    Calls Tryz.prog 74 #[.pointer (some ⟨n, 0, none⟩)] w fun e w' => ∃ new D, e = .returned (.tuple #[]) ∧ Net KP KS w' n (ks ++ new) (G ++ D) ∧ SprW w0 K T (ks ++ new) (ks ++ new).length (G ++ D) ∧ (∀ k ∈ ks ++ new, ∃ h t, AtP w0 K k h t ∧ Q k.1 t) ∧ Keeps KS w w' := by
  have HN := hide hN
  have HS := hide hS
  have HST := hide hst
  have HK := hide hK
  have HKP : Hid (∀ b, KP b → KS b) := by obtain ⟨_, _, _, _, _, _, h9⟩ := hN; exact fun b hb => (h9.plain b hb).1
  have HQ := hide hQ
  have HQ0 := hide hQ0
  clear hN hS hst hK hQ hQ0
  go_enter Tryz.func74, Tryz.ntmps74
  go_wp2
  go_loopw [2] (fun t2 wr => ∃ (i : Nat) (new : List (Bool × Addr)) (D : Log), t2 = .int .i64 i ∧ Net KP KS wr n (ks ++ new) (G ++ D) ∧ SprW w0 K T (ks ++ new) i (G ++ D) ∧ (∀ k ∈ ks ++ new, ∃ h t, AtP w0 K k h t ∧ Q k.1 t) ∧ Keeps KS w wr) (fun t2 _ => T - (intOf t2).toNat)
  case atStart => exact ⟨0, [], [], rfl, by rw [List.append_nil, List.append_nil]; exact HN.out, by rw [List.append_nil, List.append_nil]; exact HS.out, by rw [List.append_nil]; exact HQ0.out, Keeps.refl _ _⟩
  case round =>
    obtain ⟨i, new, D, rfl, hN, hS, hqr, hkp⟩ := hrel
    have HNR := hide hN
    have HSR := hide hS
    have HKR := hide hkp
    have hile := hS.base.le
    have HLT : Hid (∀ b, KS b → b < wr.heap.size) := by obtain ⟨_, _, _, _, _, _, h9⟩ := hN; exact h9.kslt
    obtain ⟨m, hbud, hmt⟩ := hS.base.bud
    generalize hGD : G ++ D = GD at *
    have HGD := hide hGD
    clear hGD
    have hkl : (ks ++ new).length ≤ i + m := by
      have := hbud.len
      rw [List.length_drop] at this
      omega
    generalize hks : ks ++ new = kk at *
    have HQR := hide hqr
    clear hqr
    have HKS := hide hks
    clear hks
    by_cases hlt : i < kk.length
    · obtain ⟨k, hki⟩ : ∃ k, kk[i]? = some k := ⟨kk[i], List.getElem?_eq_getElem hlt⟩
      obtain ⟨g, c, ov, nv, cv, z, hlc, z0, z1, z2, z3⟩ := hN.place hki
      have hbud2 := hbud
      rw [List.drop_eq_getElem_cons hlt] at hbud2
      have ek : kk[i] = k := by
        have := List.getElem?_eq_getElem hlt
        rw [hki] at this
        exact (Option.some.inj this).symm
      rw [ek] at hbud2
      obtain ⟨h, t, m2, ⟨hat, hsn⟩, hw, hrest⟩ := hbud2
      have hstr : Stays K w0 wr := ⟨Nat.le_trans HST.out.size hkp.size, fun b hb hl => (hkp.block b (HKP.out b (HK.out b hb).1)).trans (HST.out.block b hb hl)⟩
      obtain ⟨kb, a⟩ := k
      have HKI := hide hki
      have HAT := hide hat
      have HSN := hide hsn
      have HREST := hide hrest
      have hwp := wgt_pos hat
      obtain ⟨hsp, hka, cs, hca, hcl, hrd⟩ := hat
      cases kb
      · have hbb : Below wr.heap.size wr (wr.alloc (.cells #[.pointer none, .pointer (some a), .slice ov nv cv, .int .i64 0] 100)) := (Below.refl _ wr).alloc (Nat.le_refl _) _
        have hst2 : Stays K w0 (wr.alloc (.cells #[.pointer none, .pointer (some a), .slice ov nv cv, .int .i64 0] 100)) := hstr.trans (Stays.of hbb)
        cases h with
        | zero => exact hrd.elim
        | succ h =>
          simp only [Bool.false_eq_true, if_false] at hcl hrd z0 z1
          have hl1 := de_len h t
          have hw' : (wgt (h + 1)).de t + m2 ≤ m := hw
          obtain ⟨o2, x2, hcall⟩ := spreadDec_any (hN.later hbb) t cs a hsp (fun j u hu => (World.cell?_of_block (a := ⟨a.block, _, none⟩) (hst2.block a.block hka (HK.out a.block hka).2)).trans (hca j u hu)) hcl ((reads_frame hst2 (fun _ h => h) (h + 1)).2.1 _ _ hrd) hka (fun b hb => (HK.out b hb).1) i (by omega) (by omega) (by omega) (by omega)
          have HCALL := hide hcall
          have HKD := hide (dec_kd hca hka hrd x2)
          have HKIDS := hide (dec_kids (R := fun _ => True) hca hka hrd x2 HAT.out HSN.out (N := T) (by omega))
          have hdn : ((some a : Option Addr) = none) = False := by simp
          clear hN hS hkp hbud hca hrd hcall hst2 hstr hbb hrest hsn hki x2
          go_wp2_with fail
          refine Calls.mono HCALL.out ?_
          rintro e w2 ⟨nw, Dw, rfl, hN2, hDl, hled, hsub, hm1, hm2, hkp2⟩
          obtain ⟨⟨mk, hbk, hmk⟩, hkd, hsk⟩ := HKIDS.out
          have HQN : Hid (∀ k ∈ kk ++ nw, ∃ h t, AtP w0 K k h t ∧ Q k.1 t) := fun k hk => by
            rcases List.mem_append.1 hk with hk | hk
            · exact HQR.out k hk
            · obtain ⟨q, hq, hqk⟩ := keys_dec (hsub.subset hk)
              obtain ⟨h', c', hac, hpc⟩ := HKD.out.1 q hq
              obtain ⟨h1, t1, hat1, hq1⟩ := HQR.out (false, a) (List.mem_of_getElem? HKI.out)
              have et := at_fun HAT.out hat1
              rw [← et] at hq1
              rw [← hqk]
              exact ⟨h', c', hac, HQ.out _ _ _ _ _ hpc hq1⟩
          have HSP : Hid (SprW w0 K T (kk ++ nw) (i + 1) (GD ++ Dw)) := by
            have h9 := HSR.out.base.step (c := 1 + t.ds.length) (wk := (wgt (h + 1)).de t) HKI.out HREST.out (by omega) hbk (by omega) hsub (hkd _ hm1 hm2) hsk
            rw [← hDl, ← List.length_append] at h9
            exact HSR.out.step h9 HKI.out HAT.out HKD.out hled
          have HN2 := hide hN2
          have HKP2 : Hid (Keeps KS w w2) := HKR.out.trans ((keeps_of ((Below.refl _ wr).alloc (Nat.le_refl _) _) HLT.out).trans hkp2)
          clear hN2 hsub hm1 hm2 hkp2 hled hDl hbk hmk hkd hsk z z0 z1 z2 z3
          go_wp2
          go_roundw
          case rel =>
            refine ⟨i + 1, new ++ nw, D ++ Dw, by go_num, ?_, ?_, ?_, HKP2.out⟩
            · rw [← List.append_assoc, ← List.append_assoc, HKS.out, HGD.out]; exact HN2.out
            · rw [← List.append_assoc, ← List.append_assoc, HKS.out, HGD.out]; exact HSP.out
            · rw [← List.append_assoc, HKS.out]; exact HQN.out
          case measure => simp [intOf]; omega
      · have hbb : Below wr.heap.size wr (wr.alloc (.cells #[.pointer (some a), .pointer none, .slice ov nv cv, .int .i64 0] 100)) := (Below.refl _ wr).alloc (Nat.le_refl _) _
        have hst2 : Stays K w0 (wr.alloc (.cells #[.pointer (some a), .pointer none, .slice ov nv cv, .int .i64 0] 100)) := hstr.trans (Stays.of hbb)
        cases h with
        | zero => exact hrd.elim
        | succ h =>
          simp only [if_true] at hcl hrd z0 z1
          obtain ⟨hl1, hl2, -⟩ := al_len HAT.out
          have hw' : (wgt (h + 1)).ex t + m2 ≤ m := hw
          obtain ⟨o1, o2, o3, x1, x2, x3, hcall⟩ := spreadExp_any (hN.later hbb) t cs a hsp (fun j u hu => (World.cell?_of_block (a := ⟨a.block, _, none⟩) (hst2.block a.block hka (HK.out a.block hka).2)).trans (hca j u hu)) ((reads_frame hst2 (fun _ h => h) (h + 1)).1 _ _ hrd) hka (fun b hb => (HK.out b hb).1) i (by omega) (fun y hy => by have := hl2 y hy; omega) (by omega) (by omega)
          have HCALL := hide hcall
          have HKD := hide (exp_kd hrd x1 x2 x3)
          have HKIDS := hide (exp_kids (R := fun _ => True) hrd x1 x2 x3 HAT.out HSN.out (N := T) (by omega))
          clear hN hS hkp hbud hca hrd hcall hst2 hstr hbb hrest hsn hki x1 x2 x3
          go_wp2_with fail
          refine Calls.mono HCALL.out ?_
          rintro e w2 ⟨nw, Dw, rfl, hN2, hDl, hled, hsub, hmem, hkp2⟩
          obtain ⟨⟨mk, hbk, hmk⟩, hkd, hsk⟩ := HKIDS.out
          have HQN : Hid (∀ k ∈ kk ++ nw, ∃ h t, AtP w0 K k h t ∧ Q k.1 t) := fun k hk => by
            rcases List.mem_append.1 hk with hk | hk
            · exact HQR.out k hk
            · obtain ⟨q, hq, hqk⟩ := keys_exp (hsub.subset hk)
              obtain ⟨h', c', hac, hpc⟩ := HKD.out.1 q hq
              obtain ⟨h1, t1, hat1, hq1⟩ := HQR.out (true, a) (List.mem_of_getElem? HKI.out)
              have et := at_fun HAT.out hat1
              rw [← et] at hq1
              rw [← hqk]
              exact ⟨h', c', hac, HQ.out _ _ _ _ _ hpc hq1⟩
          have HSP : Hid (SprW w0 K T (kk ++ nw) (i + 1) (GD ++ Dw)) := by
            have h9 := HSR.out.base.step (c := t.l.length + t.ds.length + t.al.length) (wk := (wgt (h + 1)).ex t) HKI.out HREST.out (by omega) hbk (by omega) hsub (hkd _ hmem) hsk
            rw [← hDl, ← List.length_append] at h9
            exact HSR.out.step h9 HKI.out HAT.out HKD.out hled
          have HN2 := hide hN2
          have HKP2 : Hid (Keeps KS w w2) := HKR.out.trans ((keeps_of ((Below.refl _ wr).alloc (Nat.le_refl _) _) HLT.out).trans hkp2)
          clear hN2 hsub hmem hkp2 hled hDl hbk hmk hkd hsk z z0 z1 z2 z3
          go_wp2
          go_roundw
          case rel =>
            refine ⟨i + 1, new ++ nw, D ++ Dw, by go_num, ?_, ?_, ?_, HKP2.out⟩
            · rw [← List.append_assoc, ← List.append_assoc, HKS.out, HGD.out]; exact HN2.out
            · rw [← List.append_assoc, ← List.append_assoc, HKS.out, HGD.out]; exact HSP.out
            · rw [← List.append_assoc, HKS.out]; exact HQN.out
          case measure => simp [intOf]; omega
    · have hie : i = kk.length := by omega
      obtain ⟨o, c, z⟩ := hN.len0
      clear hN hS hkp hbud
      go_wp2
      go_end0
      refine ⟨new, D, rfl, by rw [HKS.out, HGD.out]; exact HNR.out, ?_, by rw [HKS.out]; exact HQR.out, HKR.out⟩
      rw [HKS.out, HGD.out, ← hie]
      exact HSR.out
end Go.Proofs.YtlaeenfeajkcfalGreat.Fr
namespace Go.Proofs.YtlaeenfeajkcfalGreat.Fr
open Go.ChangeShapes Go.WideShapes Go.ChangeAt Go.RowKit Go.Proofs.YtlaeenfeajkcfalGreat.Nm
set_option linter.unusedVariables false

theorem AtP.stay {w w' : World} {K : Nat → Prop} {k : Bool × Addr} {h : Nat} {t : Tr} (hat : AtP w K k h t) (hst : Stays K w w') (hK : ∀ b, K b → b < w.heap.size) : AtP w' K k h t := by
  obtain ⟨h1, h2, cs, h3, h4, h5⟩ := hat
  refine ⟨h1, h2, cs, fun j u hu => (World.cell?_of_block (a := ⟨k.2.block, _, none⟩) (hst.block _ h2 (hK _ h2))).trans (h3 j u hu), h4, ?_⟩
  cases hk : k.1
  · rw [hk] at h5
    exact (reads_frame hst (fun _ h => h) h).2.1 _ _ h5
  · rw [hk] at h5
    exact (reads_frame hst (fun _ h => h) h).1 _ _ h5
/-- What a net is that is spread: at each place a tree, each way from a tree to its part, none left out. -/
structure NetF (w : World) (K : Nat → Prop) (ks : List (Bool × Addr)) (G : Log) : Prop where
  at_ : ∀ k ∈ ks, ∃ h t, AtP w K k h t ∧ t.ss.length ≤ 5000000 ∧ t.al.length ≤ 5000000 ∧ (t.al.map fun a => a.ss.length).sum ≤ 5000000 ∧ t.s.size ≤ maxLen
  sound : ∀ g ∈ G, ∃ kf ki hf tf hi ti B, ks[g.2.1]? = some kf ∧ ks[g.1]? = some ki ∧ AtP w K kf hf tf ∧ AtP w K ki hi ti ∧ Part kf.1 tf ki.1 ti B ∧ SameB g.2.2 B
  whole : ∀ f kf hf tf, ks[f]? = some kf → AtP w K kf hf tf → ∀ b' c B, Part kf.1 tf b' c B → ∃ g ∈ G, g.2.1 = f ∧ SameB g.2.2 B ∧ ∃ ki h', ks[g.1]? = some ki ∧ ki.1 = b' ∧ AtP w K ki h' c
  few : ks.length ≤ 5000000 ∧ G.length ≤ 5000000
theorem NetF.stay {w w' : World} {K : Nat → Prop} {ks : List (Bool × Addr)} {G : Log} (h : NetF w K ks G) (hst : Stays K w w') (hK : ∀ b, K b → b < w.heap.size) : NetF w' K ks G := by
  refine ⟨fun k hk => ?_, fun g hg => ?_, fun f kf hf tf hkf hat b' c B hp => ?_, h.few⟩
  · obtain ⟨h1, t, hat, r⟩ := h.at_ k hk
    exact ⟨h1, t, hat.stay hst hK, r⟩
  · obtain ⟨kf, ki, hf, tf, hi, ti, B, e1, e2, e3, e4, e5⟩ := h.sound g hg
    exact ⟨kf, ki, hf, tf, hi, ti, B, e1, e2, e3.stay hst hK, e4.stay hst hK, e5⟩
  · obtain ⟨h1, t, hat1, -⟩ := h.at_ kf (List.mem_of_getElem? hkf)
    have e := at_fun hat (hat1.stay hst hK)
    subst e
    obtain ⟨g, hg, e1, e2, ki, h', e3, e4, e5⟩ := h.whole f kf h1 tf hkf hat1 b' c B hp
    exact ⟨g, hg, e1, e2, ki, h', e3, e4, e5.stay hst hK⟩
theorem at_bounds {w0 : World} {K : Nat → Prop} {R : ByteArray → Prop} {T : Nat} {k : Bool × Addr} {h1 : Nat} {t1 : Tr} (hs : Snd w0 K R T k) (hat : AtP w0 K k h1 t1) (hT : T ≤ 5000000) : t1.ss.length ≤ 5000000 ∧ t1.al.length ≤ 5000000 ∧ (t1.al.map fun a => a.ss.length).sum ≤ 5000000 ∧ t1.s.size ≤ maxLen := by
  obtain ⟨h2, t2, hat2, -, hw2⟩ := hs
  have e := at_fun hat2 hat
  subst e
  obtain ⟨kb, ka⟩ := k
  cases kb
  · obtain ⟨-, -, cs2, -, -, r⟩ := hat2
    cases h2 with
    | zero => exact r.elim
    | succ h2 =>
      have hsz := de_size (K := K) (w := w0) (h := h2 + 1) (d := t2) (cs := cs2) r
      obtain ⟨-, -, r3, -⟩ := r
      have h9 := de_len h2 t2
      have hw3 : (wgt (h2 + 1)).de t2 ≤ T := hw2
      rw [r3]
      refine ⟨by omega, by simp, by simp, hsz⟩
  · have h9 := al_len hat2
    have hw3 : (wgt h2).ex t2 ≤ T := hw2
    obtain ⟨-, -, cs2, -, -, r⟩ := hat2
    cases h2 with
    | zero => exact r.elim
    | succ h2 =>
      obtain ⟨r0, o1, c1, o2, c2, o3, c3, -, rs, -⟩ := r
      rw [r0]
      exact ⟨by simp, by omega, by omega, rs⟩
theorem SprW.fin {w0 w' : World} {K : Nat → Prop} {T : Nat} {ks : List (Bool × Addr)} {G : Log} (h : SprW w0 K T ks ks.length G) (hT : T ≤ 5000000) (hst : Stays K w0 w') (hK : ∀ b, K b → b < w0.heap.size) : NetF w' K ks G := by
  obtain ⟨m, -, hm⟩ := h.base.bud
  have h0 : NetF w0 K ks G := by
    refine ⟨fun k hk => ?_, h.sound, fun f kf hf tf hkf hat b' c B hp => h.whole f kf hf tf (List.getElem?_eq_some_iff.1 hkf).1 hkf hat b' c B hp, by omega, by omega⟩
    obtain ⟨h1, t1, hat, -⟩ := h.base.snd k hk
    exact ⟨h1, t1, hat, at_bounds (h.base.snd k hk) hat hT⟩
  exact h0.stay hst hK
set_option maxHeartbeats 2000000 in
set_option maxRecDepth 100000 in
theorem netOfDecs_any {K : Nat → Prop} {w : World} {h : Nat} (xs : List Tr) (o : Option Addr) (c : Nat) (hx : RowOf K w (reads K w h).de 9 o xs) (hp : ∀ b, K b → b < w.heap.size ∧ PlainAt w ⟨b, 0, none⟩) (hT : (xs.map (wgt h).de).sum ≤ 5000000) (hl : xs.length ≤ 5000000) {Q : Bool → Tr → Prop} (hQ : ∀ b t b' c B, Part b t b' c B → Q b t → Q b' c) (hQ0 : ∀ d ∈ xs, Q false d) :
    Calls Tryz.prog 41 #[.slice o xs.length c] w fun e w' => ∃ n, e = .returned (.pointer (some ⟨n, 0, none⟩)) ∧ (∃ ks G, Net K (fun b => b < w.heap.size) w' n ks G ∧ NetF w' K ks G ∧ (∀ d ∈ xs, ∃ k ∈ ks, k.1 = false ∧ ∃ h, AtP w' K k h d) ∧ (∀ d, xs[0]? = some d → ∃ k h, ks[0]? = some k ∧ k.1 = false ∧ AtP w' K k h d) ∧ (∀ k ∈ ks, ∃ h t, AtP w' K k h t ∧ Q k.1 t)) ∧ Below w.heap.size w w' := by
  have HNN := hide (newNet_any K (fun b => b < w.heap.size) w (fun b hb => hb) hp)
  have HX := hide hx
  have HP := hide hp
  have hb2 := rowBud (w := w) (K := K) (R := fun _ => True) (o := o) (sz := 9) (d := 0) (b := false) (wgt h).de xs (fun i x hi => ⟨h, x, ⟨(de_at hx i x hi).2, fun y hy => trivial⟩, Nat.le_refl _⟩)
  have HBUD := hide hb2
  have HWLE : Hid (∀ x ∈ xs, (wgt h).de x ≤ (xs.map (wgt h).de).sum) := fun x hx => sum_mem_le (wgt h).de xs x hx
  have HQ := hide hQ
  have HQ0 := hide hQ0
  clear hx hp hb2 hQ hQ0
  go_enter Tryz.func41, Tryz.ntmps41
  go_wp2_with fail
  refine Calls.mono HNN.out ?_
  rintro e w1 ⟨n, rfl, hN, hb1⟩
  have HN := hide hN
  have HB1 := hide hb1
  clear hN hb1
  go_wp2
  go_loopw [8] (fun t8 wr => ∃ (i : Nat) (ks : List (Bool × Addr)), i ≤ xs.length ∧ t8 = .int .i64 i ∧ Net K (fun b => b < w.heap.size) wr n ks [] ∧ (0 < i → ks[0]? = some (false, ⟨bOf o, fOf o + 0 * 9 + 0, none⟩)) ∧ ks.Sublist ((rowA o 9 0 i).map fun a => (false, a)) ∧ (∀ a ∈ rowA o 9 0 i, (false, a) ∈ ks) ∧ Below w.heap.size w wr) (fun t8 _ => xs.length - (intOf t8).toNat)
  case atStart => exact ⟨0, [], Nat.zero_le _, rfl, HN.out, fun h => absurd h (Nat.lt_irrefl _), by simp, fun a ha => by simp [rowA] at ha, HB1.out⟩
  case round =>
    obtain ⟨i, ks, hi, rfl, hN, h00, hsub, hmem, hb⟩ := hrel
    have H00 := hide h00
    clear h00
    have HNR := hide hN
    have HSUB := hide hsub
    have HMEM := hide hmem
    have HB := hide hb
    have hkl : ks.length ≤ i := by
      have := hsub.length_le
      rw [List.length_map, row_len] at this
      exact this
    by_cases hlt : i < xs.length
    · have hne : xs ≠ [] := by intro e; rw [e] at hlt; simp at hlt
      obtain ⟨b, off, rfl, kb, -, -⟩ := HX.out hne
      have HPL := hide (placeOfDec_any hN (by omega) ⟨b, off + i * 9, none⟩ kb)
      clear hN hsub hmem hb hne
      go_wp2_with fail
      refine Calls.mono HPL.out ?_
      rintro e w2 ⟨j, nw, rfl, hN2, hnew, hidx, hkp⟩
      have HN2 := hide hN2
      have HNEW := hide hnew
      have HIDX := hide (List.mem_of_getElem? hidx)
      have HID0 : Hid ((ks ++ nw)[0]? = some (false, ⟨bOf (some ⟨b, off, none⟩), fOf (some ⟨b, off, none⟩) + 0 * 9 + 0, none⟩)) := by
        show (ks ++ nw)[0]? = _
        by_cases h0 : 0 < i
        · have h9 := H00.out h0
          rw [List.getElem?_append_left (List.getElem?_eq_some_iff.1 h9).1]
          exact h9
        · have hi0 : i = 0 := by omega
          subst hi0
          have hk0 : ks = [] := List.eq_nil_of_length_eq_zero (by omega)
          subst hk0
          rcases hnew with h9 | h9
          · rw [h9] at hidx; simp at hidx
          · rw [h9]; rfl
      have HB2 : Hid (Below w.heap.size w w2) := HB.out.trans ⟨hkp.os, hkp.tape, hkp.output, hkp.size, fun b hb => hkp.block b hb⟩
      clear hN2 hnew hidx hkp
      go_wp2
      go_roundw
      case rel =>
        refine ⟨i + 1, ks ++ nw, by omega, by go_num, HN2.out, fun _ => HID0.out, ?_, fun a ha => ?_, HB2.out⟩
        · rw [rowA_succ, List.map_append]
          refine HSUB.out.append ?_
          rcases HNEW.out with h9 | h9
          · rw [h9]; exact List.nil_sublist _
          · rw [h9]; exact List.Sublist.refl _
        · rw [rowA_succ] at ha
          rcases List.mem_append.1 ha with ha | ha
          · exact List.mem_append_left _ (HMEM.out a ha)
          · rw [List.mem_singleton] at ha
            rw [ha]
            exact HIDX.out
      case measure => simp [intOf]; omega
    · have hie : i = xs.length := by omega
      subst hie
      have HSP := hide (spread_any (w0 := w) (T := (xs.map (wgt h).de).sum) hN (Stays.of hb) (fun b hb => ⟨hb, (HP.out b hb).1⟩) ⟨⟨⟨_, HBUD.out.sub hsub, by simp⟩, fun k hk => (by simp at hk), fun k hk => (by
        obtain ⟨a, ha, rfl⟩ := List.mem_map.1 (hsub.subset hk)
        obtain ⟨j, hj, rfl⟩ := List.mem_map.1 ha
        have hj2 := List.mem_range.1 hj
        exact ⟨h, _, (de_at HX.out j _ (List.getElem?_eq_getElem hj2)).2, fun y hy => trivial, HWLE.out _ (List.getElem_mem hj2)⟩), Nat.zero_le _⟩, fun g hg => (by cases hg), fun f kf hf tf hlt => absurd hlt (Nat.not_lt_zero _)⟩ HQ.out (fun k hk => (by
        obtain ⟨a, ha, rfl⟩ := List.mem_map.1 (hsub.subset hk)
        obtain ⟨j, hj, rfl⟩ := List.mem_map.1 ha
        have hj2 := List.mem_range.1 hj
        exact ⟨h, _, (de_at HX.out j _ (List.getElem?_eq_getElem hj2)).2, HQ0.out _ (List.getElem_mem hj2)⟩)) hT)
      clear hN hsub hmem hb
      go_wp2_with fail
      refine Calls.mono HSP.out ?_
      rintro e w3 ⟨new, D, rfl, hN3, hS3, hq3, hkp3⟩
      have hb3 : Below w.heap.size w w3 := HB.out.trans ⟨hkp3.os, hkp3.tape, hkp3.output, hkp3.size, fun b hb => hkp3.block b hb⟩
      have HF : Hid (∃ ks G, Net K (fun b => b < w.heap.size) w3 n ks G ∧ NetF w3 K ks G ∧ (∀ d ∈ xs, ∃ k ∈ ks, k.1 = false ∧ ∃ h, AtP w3 K k h d) ∧ (∀ d, xs[0]? = some d → ∃ k h, ks[0]? = some k ∧ k.1 = false ∧ AtP w3 K k h d) ∧ (∀ k ∈ ks, ∃ h t, AtP w3 K k h t ∧ Q k.1 t)) := by
        have hstay : Stays K w w3 := Stays.of hb3
        have hKlt : ∀ b, K b → b < w.heap.size := fun b hb => (HP.out b hb).1
        refine ⟨_, _, hN3, hS3.fin hT hstay hKlt, fun d hd => ?_, fun d hd => ?_, fun k hk => (by obtain ⟨h1, t1, hat1, hq1⟩ := hq3 k hk; exact ⟨h1, t1, hat1.stay hstay hKlt, hq1⟩)⟩
        · obtain ⟨j, hj⟩ := List.mem_iff_getElem?.1 hd
          obtain ⟨m1, m2⟩ := de_at HX.out j d hj
          exact ⟨_, List.mem_append_left _ (HMEM.out _ m1), rfl, h, m2.stay hstay hKlt⟩
        · have hlt0 := (List.getElem?_eq_some_iff.1 hd).1
          have h9 := H00.out hlt0
          obtain ⟨m1, m2⟩ := de_at HX.out 0 d hd
          exact ⟨_, h, by rw [List.getElem?_append_left (List.getElem?_eq_some_iff.1 h9).1]; exact h9, rfl, m2.stay hstay hKlt⟩
      have HB3 := hide hb3
      clear hN3 hS3 hkp3 hb3 hq3
      go_wp2
      go_ret
      exact ⟨n, rfl, HF.out, HB3.out⟩
end Go.Proofs.YtlaeenfeajkcfalGreat.Fr
namespace Go.Proofs.YtlaeenfeajkcfalGreat.Fr
open Go.ChangeShapes Go.WideShapes Go.ChangeAt Go.RowKit Go.Proofs.YtlaeenfeajkcfalGreat.Nm
set_option linter.unusedVariables false

theorem str_keyed : Maps.Keyed Tryz.prog 9 := Maps.string_keyed Tryz.underlying9
theorem key_str {s : ByteArray} (hs : s.size ≤ maxLen) : keyOf Tryz.prog 9 (.string s) = some (.string s.toList) := by
  rw [ByteArray.toList_eq]
  simp [keyOf, Tryz.underlying9, mapKey, hs]
/-- A slice, one to one as a datum. -/
def datS : Value → Option (DataW Unit × List MemPlace)
  | .slice none n c => some (.agg [.lit (.int .i64 n), .lit (.int .i64 c)], [])
  | .slice (some ⟨b, off, none⟩) n c => some (.agg [.lit (.int .i64 b), .lit (.int .i64 off), .lit (.int .i64 n), .lit (.int .i64 c)], [])
  | _ => none
theorem datS_form {v : Value} {z : DataW Unit × List MemPlace} (h : datS v = some z) : (∃ n c, v = .slice none n c ∧ z = (.agg [.lit (.int .i64 (n : Nat)), .lit (.int .i64 (c : Nat))], [])) ∨ (∃ b off n c, v = .slice (some ⟨b, off, none⟩) n c ∧ z = (.agg [.lit (.int .i64 (b : Nat)), .lit (.int .i64 (off : Nat)), .lit (.int .i64 (n : Nat)), .lit (.int .i64 (c : Nat))], [])) := by
  unfold datS at h
  split at h
  · rename_i n c
    cases h
    exact .inl ⟨n, c, rfl, rfl⟩
  · rename_i b off n c
    cases h
    exact .inr ⟨b, off, n, c, rfl, rfl⟩
  · cases h
theorem datS_inj {v v' : Value} {z : DataW Unit × List MemPlace} (h : datS v = some z) (h' : datS v' = some z) : v = v' := by
  rcases datS_form h with ⟨n, c, rfl, rfl⟩ | ⟨b, off, n, c, rfl, rfl⟩
  · rcases datS_form h' with ⟨n', c', rfl, e⟩ | ⟨b', off', n', c', rfl, e⟩
    · simp at e
      rw [Int.ofNat_inj.1 e.1, Int.ofNat_inj.1 e.2]
    · simp at e
  · rcases datS_form h' with ⟨n', c', rfl, e⟩ | ⟨b', off', n', c', rfl, e⟩
    · simp at e
    · simp at e
      obtain ⟨e1, e2, e3, e4⟩ := e
      rw [Int.ofNat_inj.1 e1, Int.ofNat_inj.1 e2, Int.ofNat_inj.1 e3, Int.ofNat_inj.1 e4]
theorem datS_snd {v : Value} {d : DataW Unit} {ps : List MemPlace} (h : datS v = some (d, ps)) : ps = [] := by
  rcases datS_form h with ⟨n, c, rfl, e⟩ | ⟨b, off, n, c, rfl, e⟩
  · exact (Prod.mk.inj e).2
  · exact (Prod.mk.inj e).2
def zD : DataW Unit := .agg [.lit (.int .i64 (0 : Nat)), .lit (.int .i64 (0 : Nat))]
theorem zD_eq : datS (.slice none 0 0) = some (zD, []) := rfl
def natV (l : List Nat) : List Value := l.map fun (i : Nat) => Value.int .i64 (i : Int)
def IntRow (B : Nat) (w : World) (v : Value) (l : List Nat) : Prop := w.ownsRow B 3 1 v l.length (natV l)
/-- A number behind a name's. -/
def updL (pl : ByteArray → List Nat) (s : ByteArray) (i : Nat) (y : ByteArray) : List Nat := if y.toList = s.toList then pl s ++ [i] else pl y
theorem updL_same (pl : ByteArray → List Nat) (s : ByteArray) (i : Nat) : updL pl s i s = pl s ++ [i] := by unfold updL; rw [if_pos rfl]
theorem updL_other (pl : ByteArray → List Nat) (s : ByteArray) (i : Nat) {y : ByteArray} (h : y ≠ s) : updL pl s i y = pl y := by unfold updL; rw [if_neg fun e => h (toList_inj e)]
theorem int_info : (Tryz.prog.info? 3).map (fun i => (i.zero, i.size, i.bytes)) = some (some (.int .i64 0), 1, 8) := by kernel_rfl
theorem zero_ints (w : World) : (zeroValue 151).run Tryz.prog w = .ok (.slice none 0 0) w := by
  have hi : (Tryz.prog.info? 151).map (fun i => (i.zero, i.size, i.bytes)) = some (some (.slice none 0 0), 1, 24) := by kernel_rfl
  obtain ⟨i0, h1, h2, -, -⟩ := info_parts hi
  simp [zeroValue, typeInfo, h1, h2]
/-- In a block lies a map: just these names are in it, each with a row of numbers of its own. -/
def SlMap (B : Nat) (w : World) (m nn : Nat) (pl : ByteArray → List Nat) : Prop := ∃ D : DataW Unit, w.ownsMap Tryz.prog 9 datS m nn D ∧ (∀ s : ByteArray, Maps.has D (.string s.toList) = true ↔ pl s ≠ []) ∧ (∀ (s : ByteArray) (v : Value), datS v = some (D.atKey (.string s.toList) zD, []) → IntRow B w v (pl s)) ∧ (∀ (s s' : ByteArray) (v v' : Value) (g : Nat), s ≠ s' → datS v = some (D.atKey (.string s.toList) zD, []) → datS v' = some (D.atKey (.string s'.toList) zD, []) → v.ownBlock = some g → v'.ownBlock ≠ some g)
theorem SlMap.new (w : World) : SlMap w.heap.size (w.alloc (.map #[] 0)) w.heap.size 0 (fun _ => []) := by
  have key : ∀ (s : ByteArray) (v : Value), datS v = some ((DataW.map [] : DataW Unit).atKey (.string s.toList) zD, []) → v = .slice none 0 0 := fun s v h => datS_inj h zD_eq
  refine ⟨.map [], World.ownsMap_made w _ _ _, fun s => by simp [Maps.has], fun s v h => ?_, fun s s' v v' g _ h _ hg => ?_⟩
  · rw [key s v h]
    exact World.ownsRow_nil _ _ _ _
  · rw [key s v h] at hg
    cases hg
theorem SlMap.lt {B : Nat} {w : World} {m nn : Nat} {pl : ByteArray → List Nat} (h : SlMap B w m nn pl) : m < w.heap.size := by
  obtain ⟨D, h1, -⟩ := h
  exact h1.lt
theorem SlMap.later {B : Nat} {w w' : World} {m nn : Nat} {pl : ByteArray → List Nat} (h : SlMap B w m nn pl) (hb : Below w.heap.size w w') : SlMap B w' m nn pl := by
  have hl := h.lt
  obtain ⟨D, ⟨es, clock, h1, h2⟩, h3, h4, h5⟩ := h
  refine ⟨D, ⟨es, clock, (hb.block m hl).trans h1, h2⟩, h3, fun s v hv => ?_, h5⟩
  have b := h4 s v hv
  exact owns_block b fun g hg => hb.block g (owns_lt b g hg).1
/-- A number is put behind a name's row. -/
theorem SlMap.step {B : Nat} {w : World} {m nn : Nat} {pl : ByteArray → List Nat} (h : SlMap B w m nn pl) (hB : B ≤ w.heap.size) (hmB : B ≤ m) {s : ByteArray} (hs : s.size ≤ maxLen) (hn : nn ≤ 4000000000000000000) (hL : (pl s).length ≤ 50000000) (i : Nat) :
    ∃ (ov : Option Addr) (nv cv : Nat) (o' : Option Addr) (n' c' : Nat) (w4 w5 : World),
      (∀ W, W.heap[m]? = w.heap[m]? → (Instr.lookup 149 (.map (some m)) (.string s) false).run Tryz.prog W = .ok (.slice ov nv cv) W) ∧
      (Builtin.append_ #[151, 151] 151 #[.slice ov nv cv, .slice (some ⟨w.heap.size, 0, none⟩) 1 1]).run Tryz.prog (w.alloc (.cells #[.int .i64 (i : Int)] 3)) = .ok (.slice o' n' c') w4 ∧
      (Instr.mapUpdate 149 (.map (some m)) (.string s) (.slice o' n' c')).run Tryz.prog w4 = .ok () w5 ∧ SlMap B w5 m (nn + 1) (updL pl s i) ∧ Below B w w5 ∧ Below B w w4 ∧ (∀ (q : Nat) (o : Obj), w.heap[q]? = some o → (∀ cur, o ≠ .cells cur 3 (0, 0)) → w4.heap[q]? = some o) := by
  have hml := h.lt
  obtain ⟨D, hown, hhas, hrow, hap⟩ := h
  have hlook : ∀ W, W.heap[m]? = w.heap[m]? → ∃ v ps, (Instr.lookup 149 (.map (some m)) (.string s) false).run Tryz.prog W = .ok v W ∧ datS v = some (D.atKey (.string s.toList) zD, ps) := fun W hW => by
    obtain ⟨es, clock, h1, h2⟩ := hown
    have hownW : W.ownsMap Tryz.prog 9 datS m nn D := ⟨es, clock, hW.trans h1, h2⟩
    exact hownW.lookup str_keyed Tryz.underlying149 (zero_ints W) zD_eq (key_str hs)
  obtain ⟨v, ps, -, hdv⟩ := hlook w rfl
  have hps := datS_snd hdv
  subst hps
  have hor : w.ownsRow B 3 1 v (pl s).length (natV (pl s)) := hrow s v hdv
  obtain ⟨k, hk⟩ : ∃ k, (pl s).length = k := ⟨_, rfl⟩
  rw [hk] at hor hL
  obtain ⟨ov, cv, rfl⟩ := owns_form hor
  have hB2 : Below w.heap.size w (w.alloc (.cells #[.int .i64 (i : Int)] 3)) := (Below.refl _ w).alloc (Nat.le_refl _) _
  have hor3 := owns_block (w' := w.alloc (.cells #[.int .i64 (i : Int)] 3)) hor fun g hg => hB2.block g (owns_lt hor g hg).1
  obtain ⟨i0, hi0, hz0, hz1, hz2⟩ := info_parts int_info
  obtain ⟨v4, w4, hr4, hown4, hgr4, hbk4⟩ := app_run (P := Tryz.prog) Tryz.underlying151 hi0 hz0 hz1 hz2 rfl (by decide) (by decide) hor3 (Nat.le_trans hB hB2.size) (some ⟨w.heap.size, 0, none⟩) 1 1 [.int .i64 (i : Int)] rfl (fun _ => ⟨w.heap.size, 0, rfl, fun j u hu => by
    rw [Nat.zero_add, cell_of (heap_alloc_new w (.cells #[.int .i64 (i : Int)] 3)), List.getElem?_toArray]
    exact hu⟩) (fun u hu => by
    rw [List.mem_singleton] at hu
    rw [hu]
    rfl) (by omega) 151
  obtain ⟨o', c', rfl⟩ := owns_form hown4
  have hsz2 : (w.alloc (.cells #[.int .i64 (i : Int)] 3)).heap.size = w.heap.size + 1 := by simp
  have hmg : ∀ g, (Value.slice ov k cv).ownBlock = some g → g ≠ m := fun g hg e => by
    obtain ⟨es, clock, h1, -⟩ := hown
    rcases hor.2 with ⟨hv, -⟩ | ⟨g', cap, cur, hv, -, hg', -⟩
    · rw [hv] at hg; cases hg
    · rw [hv] at hg
      have e9 : g' = g := Option.some.inj hg
      rw [e9, e, h1] at hg'
      cases hg'
  have hm4 : w4.heap[m]? = w.heap[m]? := (hgr4.block m (by omega) fun e => hmg m e.symm rfl).trans (hB2.block m hml)
  have hkeep4 : ∀ (q : Nat) (o : Obj), w.heap[q]? = some o → (∀ cur, o ≠ .cells cur 3 (0, 0)) → w4.heap[q]? = some o := fun q o hq hne => by
    have hlt := heap_lt hq
    refine (hgr4.block q (by omega) fun e => ?_).trans ((hB2.block q hlt).trans hq)
    rcases hor.2 with ⟨h9, -⟩ | ⟨g', cap, cur', h9, hb1, hg', rest⟩
    · rw [h9] at e; cases e
    · rw [h9] at e
      have e9 : q = g' := Option.some.inj e
      rw [← e9, hq] at hg'
      exact hne _ (Option.some.inj hg')
  have hown4m : w4.ownsMap Tryz.prog 9 datS m nn D := by
    obtain ⟨es, clock, h1, h2⟩ := hown
    exact ⟨es, clock, hm4.trans h1, h2⟩
  have hgB : ∀ g, (Value.slice ov k cv).ownBlock = some g → B ≤ g := fun g hg => (owns_lt hor g hg).2
  have hb4 : Below B w w4 := (hB2.mono hB).trans (below_grown hgr4 (Nat.le_trans hB hB2.size) hgB)
  have hnb : ∀ q, (Value.slice o' (k + 1) c').ownBlock = some q → q ≠ m := fun q hq e => by
    obtain ⟨es, clock, h1, -⟩ := hown4m
    rcases hown4.2 with ⟨hv, -⟩ | ⟨g', cap, cur, hv, -, hg', -⟩
    · rw [hv] at hq; cases hq
    · rw [hv] at hq
      have e9 : g' = q := Option.some.inj hq
      rw [e9, e, h1] at hg'
      cases hg'
  obtain ⟨dv, hdv4⟩ : ∃ d, datS (.slice o' (k + 1) c') = some (d, []) := by
    rcases hown4.2 with ⟨hv, -⟩ | ⟨g', cap, cur, hv, -⟩
    · rw [hv]; exact ⟨_, rfl⟩
    · rw [hv]; exact ⟨_, rfl⟩
  obtain ⟨w5, hr5, hown5, hg5⟩ := hown4m.update str_keyed Tryz.underlying149 (by unfold maxLen; omega) (key_str hs) hdv4
  have hkeep5 : ∀ (q : Nat) (cur : Array Value), w4.heap[q]? = some (.cells cur 3 (0, 0)) → w5.heap[q]? = w4.heap[q]? := fun q cur hq => hg5.block q (heap_lt hq) fun e => by
    have e9 := Option.some.inj e
    obtain ⟨es, clock, h1, -⟩ := hown4m
    rw [e9, h1] at hq
    cases hq
  have hrow5 : ∀ (v : Value) (mm : Nat) (ys : List Value), w4.ownsRow B 3 1 v mm ys → w5.ownsRow B 3 1 v mm ys := fun v mm ys hv => by
    obtain ⟨hl, hc⟩ := hv
    refine ⟨hl, ?_⟩
    rcases hc with hc | ⟨g, cap, cur, e, hb1, hg, rest⟩
    · exact .inl hc
    · exact .inr ⟨g, cap, cur, e, hb1, (hkeep5 g cur hg).trans hg, rest⟩
  have hother : ∀ (s' : ByteArray) (v' : Value), s' ≠ s → datS v' = some (D.atKey (.string s'.toList) zD, []) → w4.ownsRow B 3 1 v' (pl s').length (natV (pl s')) := fun s' v' hne hv' => by
    have h2 : w.ownsRow B 3 1 v' (pl s').length (natV (pl s')) := hrow s' v' hv'
    refine owns_block h2 fun q hq => ?_
    have hlt := (owns_lt h2 q hq).1
    exact (hgr4.block q (by omega) fun e => hap s' s v' _ q hne hv' hdv hq e.symm).trans (hB2.block q hlt)
  refine ⟨ov, k, cv, o', k + 1, c', w4, w5, fun W hW => ?_, hr4, hr5, ⟨_, hown5, fun y => ?_, fun s' v' hv' => ?_, fun s1 s2 v1 v2 q hne h1 h2 hq => ?_⟩, hb4.trans (below_grown hg5 (Nat.le_trans hB hb4.size) fun q hq => by have := Option.some.inj hq; omega), hb4, hkeep4⟩
  · obtain ⟨v', ps', hr', hd'⟩ := hlook W hW
    have hps' := datS_snd hd'
    subst hps'
    rw [datS_inj hd' hdv] at hr'
    exact hr'
  · by_cases e : y = s
    · subst e
      rw [Maps.has_put_same hown4m.isMap (str_keyed.key (key_str hs)), updL_same]
      simp
    · have hne : (Lit.string y.toList) ≠ .string s.toList := fun h => e (toList_inj (by injection h))
      rw [Maps.has_put_other hne, hhas, updL_other pl s i e]
  · by_cases e : s' = s
    · subst e
      rw [Maps.atKey_put_same hown4m.isMap (str_keyed.key (key_str hs))] at hv'
      have ev := datS_inj hv' hdv4
      rw [ev, updL_same]
      have h9 := hrow5 _ _ _ hown4
      show w5.ownsRow B 3 1 _ (pl s' ++ [i]).length (natV (pl s' ++ [i]))
      rw [List.length_append, hk]
      have e9 : natV (pl s' ++ [i]) = natV (pl s') ++ [.int .i64 (i : Int)] := by unfold natV; rw [List.map_append]; rfl
      rw [e9]
      exact h9
    · have hne : (Lit.string s'.toList) ≠ .string s.toList := fun h => e (toList_inj (by injection h))
      rw [Maps.atKey_put_other hne] at hv'
      rw [updL_other pl s i e]
      exact hrow5 _ _ _ (hother s' v' e hv')
  · have hnew : ∀ (s' : ByteArray) (v' : Value) (r : Nat), s' ≠ s → datS v' = some (D.atKey (.string s'.toList) zD, []) → v'.ownBlock = some r → (Value.slice o' (k + 1) c').ownBlock ≠ some r := fun s' v' r hn' hv' hr' e => by
      rcases hbk4 with e1 | e1
      · rw [e1] at e
        exact hap s' s v' _ r hn' hv' hdv hr' e
      · rw [e1] at e
        have e9 := Option.some.inj e
        have h2' : w.ownsRow B 3 1 v' (pl s').length (natV (pl s')) := hrow s' v' hv'
        have := (owns_lt h2' r hr').1
        omega
    by_cases e1 : s1 = s
    · subst e1
      have hne2 : (Lit.string s2.toList) ≠ .string s1.toList := fun h => hne (toList_inj (by injection h)).symm
      rw [Maps.atKey_put_same hown4m.isMap (str_keyed.key (key_str hs))] at h1
      rw [Maps.atKey_put_other hne2] at h2
      rw [datS_inj h1 hdv4] at hq
      exact fun hh => hnew s2 v2 q (fun e => hne e.symm) h2 hh hq
    · have hne1 : (Lit.string s1.toList) ≠ .string s.toList := fun h => e1 (toList_inj (by injection h))
      rw [Maps.atKey_put_other hne1] at h1
      by_cases e2 : s2 = s
      · subst e2
        rw [Maps.atKey_put_same hown4m.isMap (str_keyed.key (key_str hs))] at h2
        rw [datS_inj h2 hdv4]
        exact hnew s1 v1 q e1 h1 hq
      · have hne2 : (Lit.string s2.toList) ≠ .string s.toList := fun h => e2 (toList_inj (by injection h))
        rw [Maps.atKey_put_other hne2] at h2
        exact hap s1 s2 v1 v2 q hne h1 h2 hq
end Go.Proofs.YtlaeenfeajkcfalGreat.Fr
