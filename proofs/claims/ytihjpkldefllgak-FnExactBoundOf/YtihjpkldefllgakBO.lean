/- The program's netOfExp. -/
import Derived.Test.YtihjpkldefllgakBN
namespace Go.Proofs.Ytihjpkldefllgak.Nm
open Go.ChangeShapes Go.WideShapes Go.ChangeAt Go.RowKit

/-- A net whose places bind just these names. -/
def NetOf (R : ByteArray → Prop) (w' : World) (n : Nat) : Prop := ∃ (K KP KS : Nat → Prop) (ks : List (Bool × Addr)) (L : Nat), Net KP KS w' n ks L ∧ (∀ k ∈ ks, ∃ h t, AtP w' K k h t) ∧ (∀ y, R y ↔ ∃ k ∈ ks, ∃ h t, AtP w' K k h t ∧ ownK k.1 t y) ∧ ks.length ≤ 5000000 ∧ (∀ k ∈ ks, ∀ h t, AtP w' K k h t → t.ss.length ≤ 5000000 ∧ t.al.length ≤ 5000000 ∧ (t.al.map fun a => a.ss.length).sum ≤ 5000000)
theorem AtP.stay {w w' : World} {K : Nat → Prop} {k : Bool × Addr} {h : Nat} {t : Tr} (hat : AtP w K k h t) (hst : Stays K w w') (hK : ∀ b, K b → b < w.heap.size) : AtP w' K k h t := by
  obtain ⟨h1, h2, cs, h3, h4, h5⟩ := hat
  refine ⟨h1, h2, cs, fun j u hu => (World.cell?_of_block (a := ⟨k.2.block, _, none⟩) (hst.block _ h2 (hK _ h2))).trans (h3 j u hu), h4, ?_⟩
  cases hk : k.1
  · rw [hk] at h5
    exact (reads_frame hst (fun _ h => h) h).2.1 _ _ h5
  · rw [hk] at h5
    exact (reads_frame hst (fun _ h => h) h).1 _ _ h5
theorem Spr.fin {w0 w' : World} {K : Nat → Prop} {R : ByteArray → Prop} {T L : Nat} {ks : List (Bool × Addr)} {k0 : Bool × Addr} {h0 : Nat} {t0 : Tr} (h : Spr w0 K R T ks ks.length L) (hk0 : k0 ∈ ks) (hat0 : AtP w0 K k0 h0 t0) (hR : ∀ y, R y ↔ bndK k0.1 h0 t0 y) (hst : Stays K w0 w') (hK : ∀ b, K b → b < w0.heap.size) :
    (∀ k ∈ ks, ∃ h t, AtP w' K k h t) ∧ (∀ y, R y ↔ ∃ k ∈ ks, ∃ h t, AtP w' K k h t ∧ ownK k.1 t y) := by
  have hall : ∀ k ∈ ks, Kids w0 K ks k := fun k hk => h.done k (by rw [List.take_length]; exact hk)
  refine ⟨fun k hk => ?_, fun y => ⟨fun hy => ?_, fun hy => ?_⟩⟩
  · obtain ⟨h1, t1, hat, -, -⟩ := h.snd k hk
    exact ⟨h1, t1, hat.stay hst hK⟩
  · obtain ⟨k', hk', h2, t2, hat2, hown⟩ := all_own hall h0 k0 hk0 h0 t0 hat0 y ((hR y).1 hy)
    exact ⟨k', hk', h2, t2, hat2.stay hst hK, hown⟩
  · obtain ⟨k', hk', h2, t2, hat2, hown⟩ := hy
    obtain ⟨h1, t1, hat, hs, -⟩ := h.snd k' hk'
    have e := at_fun (hat.stay hst hK) hat2
    subst e
    exact hs y (own_bnd hat hown)
set_option maxHeartbeats 2000000 in
set_option maxRecDepth 100000 in
theorem netOfExp_any {K0 : Nat → Prop} {w : World} {h : Nat} {x : Tr} {cs : List Value} (hr : (reads K0 w h).ex x cs) (hp : ∀ b, K0 b → b < w.heap.size ∧ PlainAt w ⟨b, 0, none⟩) (hT : (wgt h).ex x ≤ 5000000) :
    Calls Try.prog 22 #[.agg cs.toArray] w fun e w' => ∃ n, e = .returned (.pointer (some ⟨n, 0, none⟩)) ∧ NetOf ((bnd h).ex x) w' n ∧ Below w.heap.size w w' := by
  obtain ⟨o1, c1, o2, c2, o3, c3, rfl⟩ := ex_form hr
  obtain ⟨V, hV⟩ : ∃ V, w.alloc (.cells #[.int .i64 x.k, .string x.s, .int .i64 x.n, .slice o1 x.l.length c1, .slice o2 x.ds.length c2, .slice o3 x.al.length c3] 34) = V := ⟨_, rfl⟩
  have hb0 : Below w.heap.size w V := by rw [← hV]; exact (Below.refl _ w).alloc (Nat.le_refl _) _
  have hsV : V.heap.size = w.heap.size + 1 := by rw [← hV]; simp
  have hbox : V.heap[w.heap.size]? = some (.cells #[.int .i64 x.k, .string x.s, .int .i64 x.n, .slice o1 x.l.length c1, .slice o2 x.ds.length c2, .slice o3 x.al.length c3] 34 (0, 0)) := by rw [← hV]; exact heap_alloc_new w _
  obtain ⟨K, HKe⟩ : ∃ K : Nat → Prop, Hid (K = fun b => K0 b ∨ b = w.heap.size) := ⟨_, rfl⟩
  have hKlt : ∀ b, K b → b < V.heap.size ∧ PlainAt V ⟨b, 0, none⟩ := fun b hb => by
    rw [HKe.out] at hb
    rcases hb with hb | hb
    · obtain ⟨h1, c, e, h2⟩ := hp b hb
      exact ⟨by omega, c, e, (hb0.block b h1).trans h2⟩
    · rw [hb]
      exact ⟨by omega, _, _, hbox⟩
  have hat : AtP V K (true, ⟨w.heap.size, 0, none⟩) h x := by
    refine ⟨rfl, by rw [HKe.out]; exact .inr rfl, [.int .i64 x.k, .string x.s, .int .i64 x.n, .slice o1 x.l.length c1, .slice o2 x.ds.length c2, .slice o3 x.al.length c3], fun j u hu => ?_, rfl, ?_⟩
    · show V.cell? ⟨w.heap.size, 0 + j, none⟩ = some u
      rw [Nat.zero_add, cell_of hbox, List.getElem?_toArray]
      exact hu
    · exact (reads_frame (Stays.of hb0) (fun b hb => by rw [HKe.out]; exact .inl hb) h).1 _ _ hr
  have HNN := hide (newNet_any K (fun b => b < V.heap.size) V (fun b hb => hb) hKlt)
  have HAT := hide hat
  have HB0 := hide hb0
  have HKL := hide hKlt
  have HKR : Hid (K w.heap.size) := by show K w.heap.size; rw [HKe.out]; exact .inr rfl
  clear hr hp hb0 hbox hKlt hat
  go_enter Try.func22, Try.ntmps22
  go_wp2_with fail
  refine Calls.mono HNN.out ?_
  rintro e w1 ⟨n, rfl, hN, hb1⟩
  have HN := hide hN
  have HB1 := hide hb1
  clear hN hb1
  go_wp2_with fail
  refine Calls.mono (placeOfExp_any HN.out (by simp) ⟨w.heap.size, 0, none⟩ HKR.out) ?_
  rintro e w2 ⟨i, new, rfl, hN2, hnew, hidx, hkp2⟩
  have hnw : new = [(true, ⟨w.heap.size, 0, none⟩)] := by
    rcases hnew with h9 | h9
    · rw [h9] at hidx; simp at hidx
    · exact h9
  subst hnw
  rw [List.nil_append] at hN2
  have HN2 := hide hN2
  have HB2 : Hid (Below V.heap.size V w2) := HB1.out.trans ⟨hkp2.os, hkp2.tape, hkp2.output, hkp2.size, fun b hb => hkp2.block b hb⟩
  have HSP := hide (spread_any (w0 := V) (R := (bnd h).ex x) (T := (wgt h).ex x) HN2.out (Stays.of HB2.out) (fun b hb => ⟨hb, (HKL.out b hb).1⟩) ⟨⟨(wgt h).ex x, ⟨h, x, 0, ⟨HAT.out, fun y hy => hy⟩, Nat.le_refl _, trivial⟩, by omega⟩, fun k hk => (by simp at hk), fun k hk => (by rw [List.mem_singleton] at hk; rw [hk]; exact ⟨h, x, HAT.out, fun y hy => hy, Nat.le_refl _⟩), Nat.zero_le _⟩ hT)
  clear hN2 hnew hidx hkp2
  go_wp2_with fail
  refine Calls.mono HSP.out ?_
  rintro e w3 ⟨new, L', rfl, hN3, hS3, hkp3⟩
  have hb3 : Below V.heap.size V w3 := HB2.out.trans ⟨hkp3.os, hkp3.tape, hkp3.output, hkp3.size, fun b hb => hkp3.block b hb⟩
  have HF : Hid (NetOf ((bnd h).ex x) w3 n) := by
    obtain ⟨f1, f2⟩ := hS3.fin (List.mem_cons_self ..) HAT.out (fun y => Iff.rfl) (Stays.of hb3) (fun b hb => (HKL.out b hb).1)
    obtain ⟨m, hbud, hmt⟩ := hS3.bud
    refine ⟨K, K, _, _, L', hN3, f1, f2, by omega, fun k hk h1 t1 hat1 => ?_⟩
    obtain ⟨h2, t2, hat2, -, hw2⟩ := hS3.snd k hk
    have e := at_fun (hat2.stay (Stays.of hb3) fun b hb => (HKL.out b hb).1) hat1
    subst e
    obtain ⟨kb, ka⟩ := k
    cases kb
    · obtain ⟨-, -, cs2, -, -, r⟩ := hat2
      cases h2 with
      | zero => exact r.elim
      | succ h2 =>
        obtain ⟨-, -, r3, -⟩ := r
        have h9 := de_len h2 t2
        have hw3 : (wgt (h2 + 1)).de t2 ≤ (wgt h).ex x := hw2
        rw [r3]
        refine ⟨by omega, by simp, by simp⟩
    · have h9 := al_len hat2
      have hw3 : (wgt h2).ex t2 ≤ (wgt h).ex x := hw2
      have hss : t2.ss = [] := by
        obtain ⟨-, -, cs2, -, -, r⟩ := hat2
        cases h2 with
        | zero => exact r.elim
        | succ h2 => exact r.1
      rw [hss]
      exact ⟨by simp, by omega, by omega⟩
  have HB3 : Hid (Below w.heap.size w w3) := HB0.out.trans (hb3.mono HB0.out.size)
  clear hN3 hS3 hkp3 hb3
  go_wp2
  go_ret
  exact ⟨n, rfl, HF.out, HB3.out⟩
end Go.Proofs.Ytihjpkldefllgak.Nm
