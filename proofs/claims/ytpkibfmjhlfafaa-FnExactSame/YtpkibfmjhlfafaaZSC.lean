/- The program's pairs.all at Res: each pair that is left is looked at; and Same: just if the two are one result. -/
import Derived.Test.YtpkibfmjhlfafaaZSB
import Derived.Test.YtpkibfmjhlfafaaZRB
namespace Go.Proofs.Ytpkibfmjhlfafaa.Sr
open Go.ChangeShapes Go.WideShapes Go.ChangeAt Go.RowKit Go.Proofs.Ytpkibfmjhlfafaa

theorem least_any {α : Type} (G : Nat → α → Prop) : ∃ mu : α → Nat, ∀ w m, G m w → G (mu w) w ∧ mu w ≤ m := by
  have h : ∀ w, ∃ n, ∀ m, G m w → G n w ∧ n ≤ m := by
    intro w
    by_cases he : ∃ m, G m w
    · obtain ⟨m, hm⟩ := he
      induction m using Nat.strongRecOn with
      | ind m ih =>
        by_cases hl : ∃ k, k < m ∧ G k w
        · obtain ⟨k, hk, hg⟩ := hl
          exact ih k hk hg
        · refine ⟨m, fun k hk => ⟨hm, ?_⟩⟩
          rcases Nat.lt_or_ge k m with h1 | h1
          · exact absurd ⟨k, h1, hk⟩ hl
          · exact h1
    · exact ⟨0, fun m hm => absurd ⟨m, hm⟩ he⟩
  obtain ⟨f, hf⟩ := Classical.axiomOfChoice h
  exact ⟨f, fun w m hm => hf w m hm⟩

set_option maxHeartbeats 2000000 in
set_option maxRecDepth 100000 in
theorem all_res {W : World} {K KP : Nat → Prop} {F : Prop} {g : Nat} (hKP : ∀ b, KP b → K b) (hp : ∀ b, KP b → PlainAt W ⟨b, 0, none⟩) (w : World) (ls ks : List (Addr × Addr)) (n : Nat) (hk : Keeps K W w) (hh : BoxP w K g ls ks) (hg : GoodR W KP F ls ks n) (hn : n ≤ 3000000) :
    Calls Try.prog 15 #[.pointer (some ⟨g, 0, none⟩), .func (.func 16) #[] #[.pointer (some ⟨g, 0, none⟩)]] w fun e w' => ∃ b, e = .returned (.bool b) ∧ Keeps K W w' ∧ (b = false → ¬ F) ∧
      (b = true → ∃ ks', (∀ p ∈ ks, p ∈ ks') ∧ ∀ p ∈ ks', DoneR W KP ks' p) := by
  obtain ⟨mu, hmu⟩ := least_any (α := Value × World) (fun m q => ∃ ls' ks', BoxP q.2 K g ls' ks' ∧ GoodR W KP F ls' ks' m ∧ Keeps K W q.2 ∧ (∀ p ∈ ks, p ∈ ks') ∧ m ≤ n ∧ q.1 = .int .i64 (ls'.length : Int))
  have HMU := hide hmu
  have HP := hide hp
  have HKPP := hide hKP
  obtain ⟨oo, capo, c0⟩ := box_len hh
  have HH := hide hh
  have HG := hide hg
  have HK := hide hk
  have hlen0 : ls.length ≤ 3000000 := Nat.le_trans hg.wt.len hn
  clear hmu hp hKP hh hg hk
  go_enter Try.func15, Try.ntmps15
  go_wp2
  clear c0
  go_loopw [5] (fun t5 wr => ∃ m ls' ks', BoxP wr K g ls' ks' ∧ GoodR W KP F ls' ks' m ∧ Keeps K W wr ∧ (∀ p ∈ ks, p ∈ ks') ∧ m ≤ n ∧ t5 = .int .i64 (ls'.length : Int)) (fun t5 wr => mu (t5, wr))
  case atStart => exact ⟨n, ls, ks, HH.out, HG.out, HK.out, fun _ h => h, Nat.le_refl _, rfl⟩
  case round =>
    obtain ⟨m1, lsx, ksx, x1, x2, x3, x4, x5, x6⟩ := hrel
    obtain ⟨⟨ls1, ks1, hh1, hg1, hk1, hks1, hst1, ht5⟩, hle⟩ := HMU.out (u5, wr) m1 ⟨lsx, ksx, x1, x2, x3, x4, x5, x6⟩
    generalize hmm : mu (u5, wr) = m at hg1 hst1 hle
    have HMM := hide hmm
    have hmn : m ≤ n := hst1
    clear hle hmm x1 x2 x3 x4 x5 x6 hst1
    simp only at hh1 hk1 ht5
    subst ht5
    have HH1 := hide hh1
    have HG1 := hide hg1
    have HK1 := hide hk1
    have HKS := hide hks1
    clear hks1
    rcases List.eq_nil_or_concat ls1 with hnil | ⟨l0, p, hcat⟩
    · have hz : ls1.length = 0 := by rw [hnil]; rfl
      rw [hz]
      have HNIL := hide hnil
      clear hnil hz hh1 hg1 hk1
      go_wp2
      go_ret
      refine ⟨true, rfl, HK1.out, (fun h => by cases h), fun _ => ⟨ks1, HKS.out, fun p hp => ?_⟩⟩
      have h1 := HG1.out.done p hp
      rw [HNIL.out] at h1
      rcases h1 with h1 | h1
      · cases h1
      · exact h1
    · have hcat2 : ls1 = l0 ++ [p] := by rw [hcat, List.concat_eq_append]
      have hlen : ls1.length = l0.length + 1 := by rw [hcat2, List.length_append]; rfl
      have hl3 : l0.length + 1 ≤ 3000000 := by
        have h0 := hg1.wt.len
        omega
      have hgw := box_gw hh1
      obtain ⟨gb, cap, q0, fz0, hc1, hc2, q1, q2, hpop, hkp⟩ := box_pop hh1 l0 p hcat2
      have hwt := hg1.wt
      rw [hcat2] at hwt
      obtain ⟨n0, n1, v0, ⟨a, t, b, u, q, at1, at2, hF, v2, -⟩, hsum⟩ := hwt.split
      have kl := kids_len at1.2.2.choose_spec.2.2
      have HPOP := hide hpop
      have HKP := hide hkp
      have HCAT := hide hcat2
      have HATS := hide (And.intro at1 (And.intro at2 hF))
      have HV0 := hide v0
      have hb0 := v0.len
      have hlen0b := hlen
      rw [hlen]
      have hc3 : cap ≤ 9223372036854775807 := hc2
      have hw1 : IntKind.i64.wrap (l0.length : Int) = l0.length := by rw [IntKind.wrap_i64]; omega
      have hw2 : (l0.length : Int) ≤ cap := by omega
      have hw3 : (0 : Int) ≤ l0.length := by omega
      clear hcat hcat2 hpop hkp at1 at2 hF v0 hh1 hg1 hk1 hc2 hwt
      have hm2 := HMM.out
      rw [hlen0b] at hm2
      have HM2 := hide hm2
      clear hm2 HMM
      have hba : Below (wr.setCell ⟨g, 0, none⟩ (.slice (some ⟨gb, 0, none⟩) l0.length cap)).heap.size (wr.setCell ⟨g, 0, none⟩ (.slice (some ⟨gb, 0, none⟩) l0.length cap)) ((wr.setCell ⟨g, 0, none⟩ (.slice (some ⟨gb, 0, none⟩) l0.length cap)).alloc (.cells #[.pointer (some p.1), .pointer (some p.2)] 47)) := (Below.refl _ _).alloc (Nat.le_refl _) _
      have HHA := hide (HPOP.out.later hba)
      have HKA := hide ((HK1.out.trans HKP.out).trans (keeps_of hba (box_kw HPOP.out)))
      clear hba
      go_wp2_with fail
      refine (look_res (F := F) HKPP.out HKA.out HP.out HHA.out HATS.out.1 HATS.out.2.1 (by omega)).mono ?_
      rintro e w1 ⟨bb, rfl, hk2, hfa, htr⟩
      cases bb
      · have HFA := hide (hfa rfl)
        have HK2 := hide hk2
        clear hfa htr hk2
        go_wp2
        go_ret
        exact ⟨false, rfl, HK2.out, (fun _ hf => HFA.out (HATS.out.2.2 hf)), fun h => (by cases h)⟩
      · obtain ⟨aa, hh2, hwa, hda⟩ := htr rfl
        have hg2 : GoodR W KP F (l0 ++ aa) (ks1 ++ aa) (n0 + (ndr a t - 1)) := by
          have h8 := HG1.out
          rw [HCAT.out] at h8
          exact h8.next hda HV0.out (hwa HATS.out.2.2)
        have hks2 : ∀ q ∈ ks, q ∈ ks1 ++ aa := fun q hq => List.mem_append_left _ (HKS.out q hq)
        obtain ⟨o9, cap9, c9⟩ := box_len hh2
        have hlen2 : (l0 ++ aa).length ≤ 3000000 := by
          have h0 := hg2.wt.len
          omega
        have HH2 := hide hh2
        have HG2 := hide hg2
        have HK2 := hide hk2
        have HKS2 := hide hks2
        clear hfa htr hwa hda hks2 hh2 hg2 hk2
        have hwn : n0 + (ndr a t - 1) ≤ n := by omega
        have HWN := hide hwn
        have hwm : n0 + (ndr a t - 1) < m := by omega
        have HWM := hide hwm
        clear hwn hwm
        generalize l0 ++ aa = l2 at c9 hlen2 HH2 HG2 ⊢
        go_wp2
        refine ⟨⟨n0 + (ndr a t - 1), l2, ks1 ++ aa, HH2.out, HG2.out, HK2.out, HKS2.out, HWN.out, rfl⟩, ?_⟩
        have h9 := (HMU.out (.int .i64 (l2.length : Int), w1) (n0 + (ndr a t - 1)) ⟨l2, ks1 ++ aa, HH2.out, HG2.out, HK2.out, HKS2.out, HWN.out, rfl⟩).2
        rw [HM2.out]
        exact Nat.lt_of_le_of_lt h9 HWM.out
theorem ty_in {K K' : Nat → Prop} {w : World} (hK : ∀ b, K b → b < w.heap.size → K' b) : ∀ h x cs, tyR K w h x cs → tyR K' w h x cs := by
  intro h
  induction h with
  | zero => exact fun _ _ h => h
  | succ h ih =>
    rintro x cs ⟨e0, e1, e2, o, c, e3, e4, e5, hm⟩
    refine ⟨e0, e1, e2, o, c, e3, e4, e5, fun hne => ?_⟩
    obtain ⟨b, off, e, hk, hl, hc⟩ := hm hne
    refine ⟨b, off, e, hK b hk hl, hl, fun i x hx => ?_⟩
    obtain ⟨cs, h1, h2, h3⟩ := hc i x hx
    exact ⟨cs, h1, h2, ih x cs h3⟩

set_option maxHeartbeats 1000000 in
set_option maxRecDepth 100000 in
theorem implSame_any {w : World} {B h h' : Nat} {t u : Tr} {ca cb : List Value} (hB : B ≤ w.heap.size) (hpl : ∀ b, B ≤ b → b < w.heap.size → ∃ c e, w.heap[b]? = some (.cells c e (0, 0))) (ra : tyR (FromK B) w h t ca) (rb : tyR (FromK B) w h' u cb) (hn : ndr h t ≤ 3000000) :
    Calls Try.prog 8 #[.agg ca.toArray, .agg cb.toArray] w fun e w' => ∃ b, e = .returned (.bool b) ∧ (b = true ↔ t = u) ∧ Below w.heap.size w w' := by
  obtain ⟨o1, c1, rfl⟩ := ty_form ra
  obtain ⟨p1, d1, rfl⟩ := ty_form rb
  generalize hV : ((w.alloc (.cells #[.int .i64 t.k, .string t.s, .int .i64 t.n, .slice o1 t.l.length c1] 29)).alloc (.cells #[.int .i64 u.k, .string u.s, .int .i64 u.n, .slice p1 u.l.length d1] 29)) = V
  have hbV : Below w.heap.size w V := by rw [← hV]; exact ((Below.refl _ w).alloc (Nat.le_refl _) _).alloc (by simp) _
  have hsV : V.heap.size = w.heap.size + 2 := by rw [← hV]; simp
  have ha : V.heap[w.heap.size]? = some (.cells #[.int .i64 t.k, .string t.s, .int .i64 t.n, .slice o1 t.l.length c1] 29 (0, 0)) := by rw [← hV]; exact (Below.heap_alloc _ _ _ (by simp)).trans (heap_alloc_new w _)
  have hb : V.heap[w.heap.size + 1]? = some (.cells #[.int .i64 u.k, .string u.s, .int .i64 u.n, .slice p1 u.l.length d1] 29 (0, 0)) := by rw [← hV]; exact heap_alloc2_new w _ _
  generalize hZ : V.alloc (.cells #[.slice none 0 0, .map none] 39) = Z
  have hbW : Below V.heap.size V Z := by rw [← hZ]; exact (Below.refl _ V).alloc (Nat.le_refl _) _
  have hKP : ∀ b, (B ≤ b ∧ b < w.heap.size + 2) → b < w.heap.size + 2 := fun b h => h.2
  have hzero : BoxP Z (fun k => k < w.heap.size + 2) (w.heap.size + 2) [] [] := by
    have h9 := box_zero (w := V) (K := fun k => k < w.heap.size + 2) (e := 39) (fun k h => by rw [hsV]; exact h)
    rw [hsV, hZ] at h9
    exact h9
  have hp : ∀ b, (B ≤ b ∧ b < w.heap.size + 2) → PlainAt Z ⟨b, 0, none⟩ := by
    rintro b ⟨h1, h2⟩
    by_cases e1 : b < w.heap.size
    · obtain ⟨c, e, hc⟩ := hpl b h1 e1
      exact ⟨c, e, (hbW.block b (by omega)).trans ((hbV.block b e1).trans hc)⟩
    · by_cases e2 : b = w.heap.size
      · subst e2
        exact ⟨_, _, (hbW.block w.heap.size (by omega)).trans ha⟩
      · have e3 : b = w.heap.size + 1 := by omega
        subst e3
        exact ⟨_, _, (hbW.block (w.heap.size + 1) (by omega)).trans hb⟩
  have rin : ∀ b, FromK B b → b < w.heap.size → (B ≤ b ∧ b < w.heap.size + 2) := fun b h1 h2 => ⟨h1, by omega⟩
  have hbA : Below w.heap.size w Z := hbV.trans (hbW.mono (by omega))
  have at1 : AtR Z (fun b => B ≤ b ∧ b < w.heap.size + 2) h ⟨w.heap.size, 0, none⟩ t := by
    refine ⟨rfl, ⟨hB, by simp⟩, _, rfl, fun j v hv => ?_, tyR_later hbA h _ _ (ty_in rin h _ _ ra)⟩
    have h9 := cell_of ((hbW.block w.heap.size (by omega)).trans ha) j
    simp only [Nat.zero_add]
    rw [h9, List.getElem?_toArray]
    exact hv
  have at2 : AtR Z (fun b => B ≤ b ∧ b < w.heap.size + 2) h' ⟨w.heap.size + 1, 0, none⟩ u := by
    refine ⟨rfl, ⟨by show B ≤ w.heap.size + 1; omega, by simp⟩, _, rfl, fun j v hv => ?_, tyR_later hbA h' _ _ (ty_in rin h' _ _ rb)⟩
    have h9 := cell_of ((hbW.block (w.heap.size + 1) (by omega)).trans hb) j
    simp only [Nat.zero_add]
    rw [h9, List.getElem?_toArray]
    exact hv
  have hput := box_put ⟨w.heap.size, 0, none⟩ ⟨w.heap.size + 1, 0, none⟩ (w.heap.size + 2) Z (fun k => k < w.heap.size + 2) [] [] hzero (by simp) (by simp) (hp w.heap.size ⟨hB, by omega⟩) (hp (w.heap.size + 1) ⟨by omega, by omega⟩) (by simp)
  have hnew : newOf [] ((⟨w.heap.size, 0, none⟩ : Addr), (⟨w.heap.size + 1, 0, none⟩ : Addr)) = [(⟨w.heap.size, 0, none⟩, ⟨w.heap.size + 1, 0, none⟩)] := newOf_put (by simp [hasK])
  simp only [hnew, List.nil_append] at hput
  have HPUT := hide hput
  have HKP := hide hKP
  have HP := hide hp
  have HA := hide (And.intro at1 at2)
  have HBA := hide hbA
  clear hput hKP hp at1 at2 hbA hzero hnew hbW hbV ha hb rin ra rb hpl
  subst hZ hV
  go_enter Try.func8, Try.ntmps8
  go_wp2_with fail
  refine HPUT.out.mono ?_
  rintro e w1 ⟨rfl, hm, hk⟩
  have HM := hide hm
  have HK := hide hk
  clear hm hk
  generalize ((w.alloc (.cells #[.int .i64 t.k, .string t.s, .int .i64 t.n, .slice o1 t.l.length c1] 29)).alloc (.cells #[.int .i64 u.k, .string u.s, .int .i64 u.n, .slice p1 u.l.length d1] 29)).alloc (.cells #[.slice none 0 0, .map none] 39) = Z at *
  have HG : Hid (GoodR Z (fun b => B ≤ b ∧ b < w.heap.size + 2) (t = u) [((⟨w.heap.size, 0, none⟩ : Addr), (⟨w.heap.size + 1, 0, none⟩ : Addr))] [((⟨w.heap.size, 0, none⟩ : Addr), (⟨w.heap.size + 1, 0, none⟩ : Addr))] (ndr h t)) :=
    ⟨⟨h, t, h', u, 0, HA.out.1, HA.out.2, id, by omega, trivial⟩, fun p hpi => .inl hpi⟩
  go_wp2_with fail
  refine (all_res (W := Z) (K := fun k => k < w.heap.size + 2) (KP := fun b => B ≤ b ∧ b < w.heap.size + 2) (F := t = u) (g := w.heap.size + 2) HKP.out HP.out w1 _ _ (ndr h t) HK.out HM.out HG.out hn).mono ?_
  rintro e w2 ⟨b, rfl, hk2, hf, ht⟩
  have HK2 := hide hk2
  have HF := hide hf
  have HT := hide ht
  clear hk2 hf ht
  go_wp2
  go_ret
  refine ⟨b, rfl, ⟨fun hb => ?_, fun he => ?_⟩, ?_⟩
  · obtain ⟨ks', hin, hd⟩ := HT.out hb
    exact all_same hd _ ((⟨w.heap.size, 0, none⟩ : Addr), (⟨w.heap.size + 1, 0, none⟩ : Addr)) (hin _ (List.mem_singleton.2 rfl)) h h' t u (Nat.le_refl _) HA.out.1 HA.out.2
  · cases b with
    | true => rfl
    | false => exact absurd he (HF.out rfl)
  · have h1 := HBA.out
    have h2 := HK2.out
    exact h1.trans ⟨h2.os, h2.tape, h2.output, h2.size, fun k hk => h2.block k (by show k < w.heap.size + 2; omega)⟩
theorem ndr_wty : ∀ h x, ndr h x ≤ wty h x + 1 := by
  intro h
  induction h with
  | zero => intro x; exact Nat.zero_le _
  | succ h ih =>
    intro x
    have key : ∀ l : List Tr, (l.map (ndr h)).sum ≤ lw (wty h) l := by
      intro l
      induction l with
      | nil => exact Nat.zero_le _
      | cons y r hr =>
        have h1 := ih y
        simp only [lw, List.map_cons, List.sum_cons, List.length_cons] at hr ⊢
        omega
    have h2 := key x.l
    show 1 + (x.l.map (ndr h)).sum ≤ x.s.size + lw (wty h) x.l + 1
    omega
end Go.Proofs.Ytpkibfmjhlfafaa.Sr
