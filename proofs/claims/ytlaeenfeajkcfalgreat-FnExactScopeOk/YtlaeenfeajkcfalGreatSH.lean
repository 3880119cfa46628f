/- Made of UBa, UB. -/
import Derived.Test.YtlaeenfeajkcfalGreatVQ
import Derived.Test.YtlaeenfeajkcfalGreatSG
import Derived.Test.YtlaeenfeajkcfalGreatUA
import Derived.Maps.RangeWalk
namespace Go.Proofs.YtlaeenfeajkcfalGreat.Fr
open Go.ChangeShapes Go.WideShapes Go.ChangeAt Go.RowKit Go.Proofs.YtlaeenfeajkcfalGreat.Nm
set_option linter.unusedVariables false

theorem sl_keys {D : DataW Unit} {w : World} {m nn : Nat} (hown : w.ownsMap Tryz.prog 9 datS m nn D) : (strKeys D).Nodup ∧ (∀ x, x ∈ strKeys D ↔ Maps.has D (.string x) = true) ∧ Maps.size D = (strKeys D).length := by
  obtain ⟨es, rfl, hk⟩ := hown.keysOf
  obtain ⟨es', e, hp⟩ := hown.tidy str_keyed
  cases e
  have hks : ∀ p ∈ es, ∃ x, p.1 = .string x := fun p hp => by
    obtain ⟨v, hv⟩ := hk p hp
    obtain ⟨x, -, hx, -⟩ := Maps.keyOf_str Tryz.underlying9 hv
    exact ⟨x, hx⟩
  refine ⟨?_, fun x => ?_, by simp [strKeys, Maps.size]⟩
  · show (es.map fun p => strOf p.1).Nodup
    refine List.pairwise_map.2 (hp.imp_of_mem fun {p q} hp' hq' hne e => hne ?_)
    obtain ⟨a, ha⟩ := hks p hp'
    obtain ⟨b, hb⟩ := hks q hq'
    rw [ha, hb] at e ⊢
    exact congrArg _ e
  · rw [Maps.has_eq, List.any_eq_true]
    show x ∈ es.map (fun p => strOf p.1) ↔ _
    rw [List.mem_map]
    constructor
    · rintro ⟨p, hp', rfl⟩
      obtain ⟨a, ha⟩ := hks p hp'
      exact ⟨p, hp', by rw [ha]; simp [Lit.sameKey, strOf]⟩
    · rintro ⟨p, hp', hs⟩
      obtain ⟨a, ha⟩ := hks p hp'
      rw [ha] at hs
      exact ⟨p, hp', by rw [ha]; simpa [Lit.sameKey, strOf] using hs⟩
set_option maxHeartbeats 1000000 in
set_option maxRecDepth 100000 in
theorem ascend_any {w : World} {m nn : Nat} {S : ByteArray → Prop} {D : DataW Unit} (hown : w.ownsMap Tryz.prog 9 datS m nn D) (hhas : ∀ s : ByteArray, Maps.has D (.string s.toList) = true ↔ S s) (hnn : nn ≤ 10000000) (hsz : ∀ y, S y → y.size ≤ maxLen) :
    Calls Tryz.prog 99 #[.map (some m)] w fun e w' => ∃ v l, e = .returned v ∧ NRow w.heap.size w' v l ∧ Asc l ∧ (∀ y, y ∈ l ↔ S y) ∧ Below w.heap.size w w' := by
  obtain ⟨hnd, hmem, hsize⟩ := sl_keys hown
  have hle : (strKeys D).length ≤ 10000000 := by
    have h9 := hown.size_le
    omega
  have HSO := hide (callsIn_wide.1 (Tryz.slices_Sorted_keys_122_123 m nn D datS w hown (by unfold maxLen; omega) (by omega)))
  have HKE := hide (callsIn_wide.1 (Tryz.maps_Keys_123 (some m) w))
  have HND := hide hnd
  have HMEM := hide hmem
  have HHAS := hide hhas
  have HSZ := hide hsz
  clear hown hhas hnd hmem hsz
  go_enter Tryz.func99, Tryz.ntmps99
  go_wp2_with fail
  refine Calls.mono HKE.out ?_
  rintro e w1 ⟨rfl, rfl⟩
  go_wp2_with fail
  refine Calls.mono HSO.out ?_
  rintro e w2 ⟨v, ss, rfl, hper, hrow, -, hb⟩
  have HF : Hid (∃ v' l, Ending.returned v = .returned v' ∧ NRow w.heap.size w2 v' l ∧ Asc l ∧ (∀ y, y ∈ l ↔ S y) ∧ Below w.heap.size w w2) := by
    have hms := List.mergeSort_perm ss (fun x y => decide (x ≤ y))
    have hmm : ∀ x, x ∈ ss.mergeSort (fun x y => decide (x ≤ y)) ↔ x ∈ strKeys D := fun x => (hms.trans hper).mem_iff
    have hb0 : Below w.heap.size w (w.alloc (.cells #[.map (some m)] 149)) := (Below.refl _ w).alloc (Nat.le_refl _) _
    have hmemS : ∀ y, y ∈ (ss.mergeSort (fun x y => decide (x ≤ y))).map ofB ↔ S y := fun y => by
      rw [List.mem_map]
      constructor
      · rintro ⟨x, hx, rfl⟩
        exact (HHAS.out _).1 (by rw [ofB_list]; exact (HMEM.out x).1 ((hmm x).1 hx))
      · intro hy
        exact ⟨y.toList, (hmm _).2 ((HMEM.out _).2 ((HHAS.out y).2 hy)), list_ofB y⟩
    have hlens : (ss.mergeSort (fun x y => decide (x ≤ y))).length = ss.length := hms.length_eq
    refine ⟨v, (ss.mergeSort (fun x y => decide (x ≤ y))).map ofB, rfl, ⟨?_, fun s hs => HSZ.out s ((hmemS s).1 hs), ?_⟩, ?_, hmemS, hb0.trans (hb.mono hb0.size)⟩
    · rw [List.length_map, hlens, List.map_map]
      exact owns_base hrow fun g hg => Nat.le_trans hb0.size (owns_lt hrow g hg).2
    · rw [List.length_map, hlens, hper.length_eq]
      unfold maxLen
      omega
    · refine List.pairwise_map.2 ?_
      have tr : ∀ a b c : List UInt8, decide (a ≤ b) = true → decide (b ≤ c) = true → decide (a ≤ c) = true := fun a b c h1 h2 => by
        simp only [decide_eq_true_eq] at *
        exact List.le_trans h1 h2
      have tot : ∀ a b : List UInt8, (decide (a ≤ b) || decide (b ≤ a)) = true := fun a b => by
        simp only [Bool.or_eq_true, decide_eq_true_eq]
        exact List.le_total a b
      have hs := List.pairwise_mergeSort tr tot ss
      have hn : (ss.mergeSort (fun x y => decide (x ≤ y))).Nodup := (hms.trans hper).nodup_iff.2 HND.out
      refine (hs.and hn).imp fun {a b} hab => ?_
      unfold LtS
      rw [ofB_list, ofB_list]
      obtain ⟨h1, h2⟩ := hab
      rw [decide_eq_true_eq] at h1
      rcases Classical.em (a < b) with h3 | h3
      · exact h3
      · exact absurd (List.le_antisymm h1 (List.not_lt.1 h3)) h2
  clear hper hrow hb
  go_wp2
  go_ret
  exact HF.out
end Go.Proofs.YtlaeenfeajkcfalGreat.Fr
namespace Go.Proofs.YtlaeenfeajkcfalGreat.Fr
open Go.ChangeShapes Go.WideShapes Go.ChangeAt Go.RowKit Go.Proofs.YtlaeenfeajkcfalGreat.Nm
set_option linter.unusedVariables false

/-- A net that was not sought in yet. -/
theorem netC {KP KS : Nat → Prop} {w : World} {n : Nat} {ks : List (Bool × Addr)} {G : Log} (h : Net KP KS w n ks G) (hne : ks ≠ []) : ∃ g cap, CNet w n g cap ks G (List.replicate ks.length 0) 0 ∧ ¬ KS g ∧ ¬ KS n := by
  obtain ⟨l1, l2, pv, me, md, ws, h⟩ := h
  have hpos : 0 < ks.length := List.length_pos_iff.2 hne
  rcases h.row.2 with ⟨-, h9⟩ | ⟨g, cap, cur, rfl, -, hg, hn, hcap, hsz, htk⟩
  · omega
  · refine ⟨g, cap, ⟨⟨me, md, h.obj⟩, ⟨cur, hg, fun i hi => ?_⟩, List.length_replicate, hn⟩, h.offr g rfl, h.off.1⟩
    obtain ⟨v, hv⟩ : ∃ v, ws[i]? = some v := ⟨ws[i]'(by rw [h.lenw]; exact hi), List.getElem?_eq_getElem _⟩
    obtain ⟨k, hki⟩ : ∃ k, ks[i]? = some k := ⟨ks[i], List.getElem?_eq_getElem hi⟩
    have key : ∀ j, j < 4 → ∀ u, (keyC k v)[j]? = some u → cur[i * 4 + j]? = some u := fun j hj u hu => by
      have h9 : (cur.toList.take (ks.length * 4))[i * 4 + j]? = (rowN ks ws)[i * 4 + j]? := by rw [htk]
      rw [List.getElem?_take_of_lt (by omega), rowN_get ks ws i k v hki hv j hj, hu, Array.getElem?_toList] at h9
      exact h9
    refine ⟨v, 0, key 2 (by omega) _ (by unfold keyC; split <;> rfl), h.way i v hv, ?_, key 3 (by omega) _ (by unfold keyC; split <;> rfl)⟩
    rw [List.getElem?_replicate, if_pos hi]
theorem ranges_keep {w w' : World} {b r n : Nat} {D : DataW Unit} {left : Lit → Bool} {cnt : Nat} (h : w.ranges Tryz.prog 9 datS b r n D left cnt) (hb : w'.heap[b]? = w.heap[b]?) (hr : w'.heap[r]? = w.heap[r]?) : w'.ranges Tryz.prog 9 datS b r n D left cnt := by
  obtain ⟨es, clock, since, seen, c0, h1, F, hs, hD, h2, rest⟩ := h
  exact ⟨es, clock, since, seen, c0, hb.trans h1, F, hs, hD, hr.trans h2, rest⟩
theorem ranges_blocks {w : World} {b r n : Nat} {D : DataW Unit} {left : Lit → Bool} {cnt : Nat} (h : w.ranges Tryz.prog 9 datS b r n D left cnt) : (∃ es c, w.heap[b]? = some (.map es c)) ∧ (∃ m s x c, w.heap[r]? = some (.mapIter m s x c)) := by
  obtain ⟨es, clock, since, seen, c0, h1, F, hs, hD, h2, rest⟩ := h
  exact ⟨⟨es, clock, h1⟩, ⟨_, _, _, _, h2⟩⟩
/-- What is told of a map of names while it is gone through. -/
structure FreeL (w0 : World) (n g cap : Nat) (ks : List (Bool × Addr)) (G : Log) (pl : ByteArray → List Nat) (m r nn : Nat) (wr : World) (D : DataW Unit) (left : Lit → Bool) (cnt : Nat) (sv : List Int) (so : Nat) : Prop where
  rg : wr.ranges Tryz.prog 9 datS m r nn D left cnt
  has_ : ∀ s : ByteArray, Maps.has D (.string s.toList) = true ↔ pl s ≠ [] ∧ (left (.string s.toList) = true ∨ Rch G s (pl s) 0)
  lft : ∀ s : ByteArray, left (.string s.toList) = true → pl s ≠ []
  rows : ∀ (s : ByteArray) (v : Value), left (.string s.toList) = true → datS v = some (D.atKey (.string s.toList) zD, []) → IntRow w0.heap.size wr v (pl s)
  cn : CNet wr n g cap ks G sv so
  le : ∀ x ∈ sv, x ≤ (so : Int)
  cnt_ : so + cnt ≤ 5000000
  keeps : Keeps (K0 w0 n g) w0 wr
set_option maxHeartbeats 4000000 in
set_option maxRecDepth 100000 in
theorem free_any {KP KS K : Nat → Prop} {w : World} {n : Nat} {ks : List (Bool × Addr)} {G : Log} (hN : Net KP KS w n ks G) (hF : NetF w K ks G) {k0 : Bool × Addr} {h0 : Nat} {t0 : Tr} (hk0 : ks[0]? = some k0) (hat0 : AtP w K k0 h0 t0) :
    Calls Tryz.prog 69 #[.pointer (some ⟨n, 0, none⟩)] w fun e w' => ∃ v l g, e = .returned v ∧ NRow w.heap.size w' v l ∧ Asc l ∧ (∀ y, y ∈ l ↔ FreT k0.1 t0 y) ∧ ¬ KS g ∧ ¬ KS n ∧ Keeps (K0 w n g) w w' := by
  have hne : ks ≠ [] := fun e => by rw [e] at hk0; cases hk0
  obtain ⟨g, cap, hC, hKg, hKn⟩ := netC hN hne
  have hASK := asked_any (K := K) hN (fun k hk => by obtain ⟨h, t, hat, -⟩ := hF.at_ k hk; exact ⟨h, t, hat⟩) hF.few.1 (fun k hk h t hat => by
    obtain ⟨h1, t1, hat1, hb1⟩ := hF.at_ k hk
    have e := at_fun hat hat1
    subst e
    exact hb1.2.2.2)
  have HASK := hide hASK
  have HC := hide hC
  have HFEW := hide hF.few
  have HGL : Hid (∀ q ∈ G, q.2.1 < ks.length ∧ Srt q.2.2 ∧ q.2.2.length ≤ 50000000) := fun q hq => by
    obtain ⟨kf, ki, hf, tf, hi, ti, B, s1, s2, s3, s4, s5, s6⟩ := hF.sound q hq
    exact ⟨(List.getElem?_eq_some_iff.1 s1).1, s6.1, s6.2.1⟩
  have HRF : Hid (∀ pl, AskedAt w K ks ks.length pl → ∀ y, Rch G y (pl y) 0 ↔ FreT k0.1 t0 y) := fun pl hA y => rch_free hF hA hk0 hat0 y
  have HSZ : Hid (∀ pl, AskedAt w K ks ks.length pl → ∀ y, pl y ≠ [] → y.size ≤ maxLen) := fun pl hA y hy => by
    obtain ⟨j, hj⟩ := List.exists_mem_of_ne_nil _ hy
    obtain ⟨-, k, h, t, e1, e2, e3⟩ := (hA.1 y j).1 hj
    obtain ⟨h1, t1, hat1, hb1⟩ := hF.at_ k (List.mem_of_getElem? e1)
    have e := at_fun e2 hat1
    subst e
    rw [e3.2.2]
    exact hb1.2.2.2
  have HKK := hide (And.intro hKg hKn)
  clear hN hF hk0 hat0 hne hC hASK hKg hKn
  go_enter Tryz.func69, Tryz.ntmps69
  go_wp2_with fail
  refine Calls.mono HASK.out ?_
  rintro e w1 ⟨m, nn, pl, rfl, hsl, hA, hnn, hb1, hm⟩
  obtain ⟨D, hown, hhas, hrow, -⟩ := hsl
  obtain ⟨w2, hrun2, hrg2, hg2, hsz2⟩ := hown.range str_keyed Tryz.underlying149
  have HST : Hid (FreeL w n g cap ks G pl m w1.heap.size nn w2 D (Maps.has D) (Maps.size D) (List.replicate ks.length 0) 0) := by
    have hb2 : Below w1.heap.size w1 w2 := below_grown hg2 (Nat.le_refl _) fun k hk => by cases hk
    refine ⟨hrg2, fun s => ?_, fun s hs => (hhas s).1 hs, fun s v _ hv => ?_, (HC.out.later hb1).later hb2, fun x hx => ?_, by have := hown.size_le; omega, ?_⟩
    · exact (hhas s).trans ⟨fun h => ⟨h, .inl ((hhas s).2 h)⟩, fun h => h.1⟩
    · exact owns_block (hrow s v hv) fun q hq => hb2.block q (owns_lt (hrow s v hv) q hq).1
    · rw [List.mem_replicate] at hx
      rw [hx.2]
      exact Int.le_refl _
    · exact (keeps_of hb1 fun k hk => hk.1).trans (keeps_of hb2 fun k hk => Nat.lt_of_lt_of_le hk.1 hb1.size)
  have HA := hide hA
  have HPL : Hid (∀ s, (pl s).length ≤ 5000000 ∧ ∀ i ∈ pl s, i < ks.length) := fun s => ⟨by have h1 := hA.2 s; have h2 := HFEW.out.1; omega, fun i hi => ((hA.1 s i).1 hi).1⟩
  have hmw : w.heap.size ≤ m := hm
  have hrw : w.heap.size ≤ w1.heap.size := hb1.size
  generalize hR : w1.heap.size = r at hrun2 HST hrw
  clear hown hhas hrow hrg2 hg2 hsz2 hA hb1 HASK hR
  go_wp2
  clear hrun2
  go_loopw [] (fun wr => ∃ D left cnt sv so, FreeL w n g cap ks G pl m r nn wr D left cnt sv so) (fun wr => wr.rangeLeft m r)
  case atStart => exact ⟨_, _, _, _, _, HST.out⟩
  case round =>
    obtain ⟨D1, left, cnt, sv, so, hl⟩ := hrel
    have HL := hide hl
    have hlq := hl.rg.left_eq
    rcases hl.rg.next str_keyed 0 with ⟨hc0, hl0, hnx⟩ | ⟨key, v, kl, y, u1, cnt1, hkey, hlk, hv, hat, hnx, hrg1, hlt, hgr, hsz, hen⟩
    · have HAS := hide (ascend_any (S := fun y => pl y ≠ [] ∧ Rch G y (pl y) 0) hl.rg.owns (fun s => by
        rw [hl.has_, hl0]
        simp) (by omega) (fun y hy => HSZ.out pl HA.out y hy.1))
      clear hl hlq
      go_wp2_with fail
      refine Calls.mono HAS.out ?_
      rintro e w6 ⟨v, l, rfl, hn, hasc, hmem, hb6⟩
      have HN6 := hide (hn.base HL.out.keeps.size)
      have HASC := hide hasc
      have HMEM : Hid (∀ y, y ∈ l ↔ FreT k0.1 t0 y) := fun y => by
        rw [hmem y, ← HRF.out pl HA.out y]
        refine ⟨fun h => h.2, fun h => ⟨fun e => ?_, h⟩⟩
        obtain ⟨p, hp, -⟩ := h
        rw [e] at hp
        cases hp
      have HB6 : Hid (Keeps (K0 w n g) w w6) := HL.out.keeps.trans (keeps_of hb6 fun k hk => Nat.lt_of_lt_of_le hk.1 HL.out.keeps.size)
      clear hn hasc hmem hb6
      go_wp2
      go_ret
      exact ⟨_, l, g, rfl, HN6.out, HASC.out, HMEM.out, HKK.out.1, HKK.out.2, HB6.out⟩
    · obtain ⟨x, rfl, rfl, hxl⟩ := Maps.keyOf_str Tryz.underlying9 hkey
      have ex : encStr x = .string (ofB x) := rfl
      rw [ex] at hnx hen
      have hlk2 : left (.string (ofB x).toList) = true := by rw [ofB_list]; exact hlk
      have hpn := hl.lft (ofB x) hlk2
      have hyv : datS v = some (D1.atKey (.string (ofB x).toList) zD, []) := by
        have h2 : y.2 = [] := datS_snd (d := y.1) (ps := y.2) hv
        rw [hv, ofB_list, hat zD, ← h2]
      have hirow := hl.rows (ofB x) v hlk2 hyv
      obtain ⟨ov, cv, rfl⟩ := owns_form hirow
      obtain ⟨⟨es0, cc0, hmb⟩, ⟨i1, i2, i3, i4, hrb⟩⟩ := ranges_blocks hl.rg
      have hcr : ∀ (b : Nat) (c : Array Value) (t : TypeId) (fz : Nat × Nat), wr.heap[b]? = some (.cells c t fz) → u1.heap[b]? = wr.heap[b]? := fun b c t fz hc => hgr.block b (heap_lt hc) fun e => by
        have e9 := Option.some.inj e
        rw [e9, hrb] at hc
        cases hc
      have hrowk : ∀ (s : ByteArray) (v' : Value), IntRow w.heap.size wr v' (pl s) → IntRow w.heap.size u1 v' (pl s) := fun s v' hi => owns_block hi fun q hq => by
        rcases hi.2 with ⟨e1, -⟩ | ⟨g', cap', cur', e1, -, hg', -⟩
        · rw [e1] at hq; cases hq
        · rw [e1] at hq
          have e9 : g' = q := Option.some.inj hq
          rw [← e9]
          exact hcr g' _ _ _ hg'
      have hC1 : CNet u1 n g cap ks G sv so := hl.cn.keep fun b c t _ hc => hcr b c t _ hc
      obtain ⟨f, hf⟩ : ∃ f : Bool, f = true ↔ Rch G (ofB x) (pl (ofB x)) 0 := by
        by_cases h9 : Rch G (ofB x) (pl (ofB x)) 0
        · exact ⟨true, fun _ => h9, fun _ => rfl⟩
        · exact ⟨false, fun h => (by cases h), fun h => absurd h h9⟩
      have hso : so ≤ 10000000 := by have := hl.cnt_; omega
      have HCO := hide (comesOut_any hC1 hl.le hso (ofB x) (hrowk _ _ hirow) hpn (HPL.out (ofB x)).2 HFEW.out.1 HFEW.out.2 (HPL.out (ofB x)).1 HGL.out f hf)
      have hlr := hl.rg.lt
      have hlm := hl.rg.owns.lt
      have hlts := hC1.lts
      have hmn : m ≠ n ∧ m ≠ g := by
        obtain ⟨⟨me, md, o1⟩, ⟨cur, o2, -⟩, -, -⟩ := hl.cn
        exact ⟨fun e => (by rw [e, o1] at hmb; cases hmb), fun e => (by rw [e, o2] at hmb; cases hmb)⟩
      have hrn : r ≠ n ∧ r ≠ g := by
        obtain ⟨⟨me, md, o1⟩, ⟨cur, o2, -⟩, -, -⟩ := hl.cn
        exact ⟨fun e => (by rw [e, o1] at hrb; cases hrb), fun e => (by rw [e, o2] at hrb; cases hrb)⟩
      have hszu : wr.heap.size ≤ u1.heap.size := hgr.size
      have HROW5 : Hid (∀ (s : ByteArray) (v' : Value), IntRow w.heap.size wr v' (pl s) → ∀ W, Keeps (K0 u1 n g) u1 W → IntRow w.heap.size W v' (pl s)) := fun s v' hi W hW => by
        have hu := hrowk s v' hi
        obtain ⟨⟨me, md, o1⟩, ⟨cur, o2, -⟩, -, -⟩ := hl.cn
        exact owns_block hu fun q hq => hW.block q ⟨(owns_lt hu q hq).1, int_type hi o1 (by decide) q hq, int_type hi o2 (by decide) q hq⟩
      have HKU : Hid (Keeps (K0 w n g) w u1) := hl.keeps.trans (keeps_grown hgr (fun k hk => Nat.lt_of_lt_of_le hk.1 hl.keeps.size) fun k hk hK => by
        have e := Option.some.inj hk
        have := hK.1
        omega)
      have hlq2 : cnt1 < cnt := hlt
      have hcnt := hl.cnt_
      have hxsz : (ofB x).size ≤ maxLen := by simpa [ofB, ByteArray.size] using hxl
      have HGR := hide hgr
      have HRG1 := hide hrg1
      have HHEN : Hid (left (.string x) = true) := hlk
      have HROWK := hide hrowk
      have HF := hide hf
      have HMB := hide hmb
      clear hl hrg1 hgr hcr hrowk hC1 hirow hyv hat hv hkey hpn hf hrb
      go_wp2_with fail
      refine Calls.mono HCO.out ?_
      rintro e w5 ⟨sv5, rfl, hc5, hle5, hk5⟩
      have hrg5 := ranges_keep HRG1.out (hk5.block m ⟨by omega, hmn.1, hmn.2⟩) (hk5.block r ⟨by omega, hrn.1, hrn.2⟩)
      have hK5 : Keeps (K0 w n g) w w5 := HKU.out.trans (hk5.mono fun k hk => ⟨Nat.lt_of_lt_of_le hk.1 HKU.out.size, hk.2⟩)
      have hsk : ∀ s : ByteArray, ((Lit.string s.toList).sameKey (.string x)) = (s.toList == x) := fun s => by simp [Lit.sameKey]
      have hkk : (Lit.string x).sameKey (.string x) = true := by simp [Lit.sameKey]
      have hof : ∀ s : ByteArray, s.toList = x → s = ofB x := fun s e => by rw [← e, list_ofB]
      have hc5' : CNet w5 n g cap ks G sv5 ((so + 1 : Nat) : Int) := hc5
      have hle5' : ∀ x ∈ sv5, x ≤ ((so + 1 : Nat) : Int) := hle5
      cases f
      · have hnr : ¬ Rch G (ofB x) (pl (ofB x)) 0 := fun h => by have := HF.out.2 h; cases this
        obtain ⟨w6, cnt2, hdel, hrg6, hc2, hturn⟩ := hrg5.drop str_keyed Tryz.underlying149 (key_str hxsz) 0
        have hg6 := hturn.grown
        have hmc : ∀ (b : Nat) (c : Array Value) (t : TypeId) (fz : Nat × Nat), w5.heap[b]? = some (.cells c t fz) → w6.heap[b]? = w5.heap[b]? := fun b c t fz hc => hg6.block b (heap_lt hc) fun e => by
          have e9 := Option.some.inj e
          obtain ⟨⟨es9, c9, h9⟩, -⟩ := ranges_blocks hrg5
          rw [e9, h9] at hc
          cases hc
        have HNEW : Hid (FreeL w n g cap ks G pl m r nn w6 (D1.del (.string (ofB x).toList)) (fun z => (left z && !z.sameKey (.string x)) && !z.sameKey (.string (ofB x).toList)) cnt2 sv5 (so + 1)) := by
          refine ⟨hrg6, fun s => ?_, fun s hs => ?_, fun s v' hs hv' => ?_, hc5'.keep fun b c t _ hc => hmc b c t _ hc, hle5', by omega, ?_⟩
          · by_cases e : s.toList = x
            · have es := hof s e
              subst es
              rw [Maps.has_del_same]
              simp only [e, hkk, Bool.not_true, Bool.and_false, Bool.false_eq_true, false_or, false_iff]
              exact fun h => hnr h.2
            · have hne : (Lit.string s.toList) ≠ .string (ofB x).toList := fun h => e (by rw [ofB_list] at h; injection h)
              have h3 : (s.toList == x) = false := by simpa using e
              rw [Maps.has_del_other hne, HL.out.has_ s]
              simp only [ofB_list, hsk, h3, Bool.not_false, Bool.and_true]
          · have hs' : left (.string s.toList) = true := by
              simp only [Bool.and_eq_true] at hs
              exact hs.1.1
            exact HL.out.lft s hs'
          · simp only [Bool.and_eq_true] at hs
            have e : ¬ s.toList = x := fun e => by
              have h2 := hs.1.2
              rw [hsk, e] at h2
              simp at h2
            have hne : (Lit.string s.toList) ≠ .string (ofB x).toList := fun h => e (by rw [ofB_list] at h; injection h)
            rw [Maps.atKey_del_other hne] at hv'
            have h5 := HROW5.out s v' (HL.out.rows s v' hs.1.1 hv') w5 hk5
            exact owns_block h5 fun q hq => by
              rcases h5.2 with ⟨e1, -⟩ | ⟨g', cap', cur', e1, -, hg', -⟩
              · rw [e1] at hq; cases hq
              · rw [e1] at hq
                have e9 : g' = q := Option.some.inj hq
                rw [← e9]
                exact hmc g' _ _ _ hg'
          · exact hK5.trans (keeps_grown hg6 (fun k hk => Nat.lt_of_lt_of_le hk.1 hK5.size) fun k hk hK => by
              have e := Option.some.inj hk
              have := hK.1
              omega)
        have HLQ : Hid (w6.rangeLeft m r < wr.rangeLeft m r) := by
          show w6.rangeLeft m r < wr.rangeLeft m r
          rw [hrg6.left_eq, hlq]
          omega
        clear hrg5 hK5 hc5 hle5 hk5 hc5' hle5' hrg6 hturn hg6 hmc hsk hof hnr hkk
        go_wp2
        go_roundw
        case rel => exact ⟨_, _, _, _, _, HNEW.out⟩
        case measure => exact HLQ.out
      · have hyr : Rch G (ofB x) (pl (ofB x)) 0 := HF.out.1 rfl
        have HNEW : Hid (FreeL w n g cap ks G pl m r nn w5 D1 (fun z => left z && !z.sameKey (.string x)) cnt1 sv5 (so + 1)) := by
          refine ⟨hrg5, fun s => ?_, fun s hs => ?_, fun s v' hs hv' => ?_, hc5', hle5', by omega, hK5⟩
          · by_cases e : s.toList = x
            · have es := hof s e
              subst es
              rw [HL.out.has_]
              simp only [e, hkk, Bool.not_true, Bool.and_false, Bool.false_eq_true, false_or]
              exact ⟨fun h => ⟨h.1, hyr⟩, fun h => ⟨h.1, .inr h.2⟩⟩
            · have h3 : (s.toList == x) = false := by simpa using e
              rw [HL.out.has_ s]
              simp only [hsk, h3, Bool.not_false, Bool.and_true]
          · simp only [Bool.and_eq_true] at hs
            exact HL.out.lft s hs.1
          · simp only [Bool.and_eq_true] at hs
            exact HROW5.out s v' (HL.out.rows s v' hs.1 hv') w5 hk5
        have HLQ : Hid (w5.rangeLeft m r < wr.rangeLeft m r) := by
          show w5.rangeLeft m r < wr.rangeLeft m r
          rw [hrg5.left_eq, hlq]
          exact hlq2
        clear hrg5 hK5 hc5 hle5 hk5 hc5' hle5' hsk hof hyr hkk
        go_wp2
        go_roundw
        case rel => exact ⟨_, _, _, _, _, HNEW.out⟩
        case measure => exact HLQ.out
set_option maxHeartbeats 1000000 in
set_option maxRecDepth 100000 in
theorem freeOfDec_any {K0' : Nat → Prop} {w : World} {h : Nat} {d : Tr} {cs : List Value} (hr : (reads K0' w h).de d cs) (hcl : cs.length = 9) (hp : ∀ b, K0' b → b < w.heap.size ∧ PlainAt w ⟨b, 0, none⟩) (hT : (wgt h).de d ≤ 5000000) :
    Calls Tryz.prog 38 #[.agg cs.toArray] w fun e w' => ∃ v l, e = .returned v ∧ NRow w.heap.size w' v l ∧ Asc l ∧ (∀ y, y ∈ l ↔ FreT false d y) ∧ Below w.heap.size w w' := by
  obtain ⟨y, p0, e0, p1, e1, p2, e2, p3, e3, p4, e4, rfl⟩ := de_form hr
  obtain ⟨V1, hV1⟩ : ∃ V, w.alloc (.cells #[.string d.s, .slice p0 d.ss.length e0, .int .i64 y.k, .string y.s, .int .i64 y.n, .slice p1 y.l.length e1, .slice p2 y.ds.length e2, .slice p3 y.al.length e3, .slice p4 d.ds.length e4] 77) = V := ⟨_, rfl⟩
  have hb1 : Below w.heap.size w V1 := by rw [← hV1]; exact (Below.refl _ w).alloc (Nat.le_refl _) _
  have hs1 : V1.heap.size = w.heap.size + 1 := by rw [← hV1]; simp
  have hbox1 : V1.heap[w.heap.size]? = some (.cells #[.string d.s, .slice p0 d.ss.length e0, .int .i64 y.k, .string y.s, .int .i64 y.n, .slice p1 y.l.length e1, .slice p2 y.ds.length e2, .slice p3 y.al.length e3, .slice p4 d.ds.length e4] 77 (0, 0)) := by rw [← hV1]; exact heap_alloc_new w _
  obtain ⟨V2, hV2⟩ : ∃ V, V1.alloc (.cells #[.string d.s, .slice p0 d.ss.length e0, .int .i64 y.k, .string y.s, .int .i64 y.n, .slice p1 y.l.length e1, .slice p2 y.ds.length e2, .slice p3 y.al.length e3, .slice p4 d.ds.length e4] 77) = V := ⟨_, rfl⟩
  have hb2 : Below V1.heap.size V1 V2 := by rw [← hV2]; exact (Below.refl _ V1).alloc (Nat.le_refl _) _
  have hbox2 : V2.heap[V1.heap.size]? = some (.cells #[.string d.s, .slice p0 d.ss.length e0, .int .i64 y.k, .string y.s, .int .i64 y.n, .slice p1 y.l.length e1, .slice p2 y.ds.length e2, .slice p3 y.al.length e3, .slice p4 d.ds.length e4] 77 (0, 0)) := by rw [← hV2]; exact heap_alloc_new V1 _
  have hb02 : Below w.heap.size w V2 := hb1.trans (hb2.mono (by omega))
  have q0 := cell_of hbox1 0
  have q1 := cell_of hbox1 1
  have q2 := cell_of hbox1 2
  have q3 := cell_of hbox1 3
  have q4 := cell_of hbox1 4
  have q5 := cell_of hbox1 5
  have q6 := cell_of hbox1 6
  have q7 := cell_of hbox1 7
  have q8 := cell_of hbox1 8
  simp only [List.getElem?_toArray, List.getElem?_cons_succ, List.getElem?_cons_zero] at q0 q1 q2 q3 q4 q5 q6 q7 q8
  obtain ⟨K, HKe⟩ : ∃ K : Nat → Prop, Hid (K = fun b => K0' b ∨ b = V1.heap.size) := ⟨_, rfl⟩
  have hKlt : ∀ b, K b → b < V2.heap.size ∧ PlainAt V2 ⟨b, 0, none⟩ := fun b hb => by
    rw [HKe.out] at hb
    rcases hb with hb | hb
    · obtain ⟨h1, c, e, h2⟩ := hp b hb
      exact ⟨Nat.lt_of_lt_of_le h1 hb02.size, c, e, (hb02.block b h1).trans h2⟩
    · rw [hb]
      exact ⟨heap_lt hbox2, _, _, hbox2⟩
  have hrow : RowOf K V2 (reads K V2 h).de 9 (some ⟨V1.heap.size, 0, none⟩) [d] := fun _ => by
    refine ⟨V1.heap.size, 0, rfl, by rw [HKe.out]; exact .inr rfl, heap_lt hbox2, fun i x hx => ?_⟩
    have hi0 : i = 0 := by
      have := (List.getElem?_eq_some_iff.1 hx).1
      simpa using this
    subst hi0
    have hxd : d = x := by simpa using hx
    subst hxd
    refine ⟨[.string d.s, .slice p0 d.ss.length e0, .int .i64 y.k, .string y.s, .int .i64 y.n, .slice p1 y.l.length e1, .slice p2 y.ds.length e2, .slice p3 y.al.length e3, .slice p4 d.ds.length e4], rfl, fun j u hu => ?_, (reads_frame (Stays.of hb02) (fun b hb => by rw [HKe.out]; exact .inl hb) h).2.1 _ _ hr⟩
    rw [show 0 + 0 * 9 + j = j by omega, cell_of hbox2, List.getElem?_toArray]
    exact hu
  have HNET := hide (netOfDecs_any [d] (some ⟨V1.heap.size, 0, none⟩) 1 hrow hKlt (by simpa using hT) (by simp) (Q := fun _ _ => True) (fun _ _ _ _ _ _ _ => trivial) (fun _ _ => trivial))
  have HB02 := hide hb02
  clear hr hcl hp hT hbox1 hbox2 hb02 hb1 hb2 hKlt hrow hs1
  go_enter Tryz.func38, Tryz.ntmps38
  go_wp2_with fail
  refine Calls.mono HNET.out ?_
  rintro e w3 ⟨n, rfl, ⟨ks, G, hN, hF, -, hroot, -⟩, hb3⟩
  obtain ⟨k0, h0, hk0, hkb, hat0⟩ := hroot d rfl
  have hfr := free_any hN hF hk0 hat0
  rw [hkb] at hfr
  have HFR := hide hfr
  have HB3 := hide (HB02.out.trans (hb3.mono HB02.out.size))
  have HS3 := hide hb3.size
  clear hN hF hroot hat0 hk0 hfr hb3
  go_wp2_with fail
  refine Calls.mono HFR.out ?_
  rintro e w4 ⟨v, l, g, rfl, hn, hasc, hmem, hkg, hkn, hk4⟩
  have HN4 := hide (hn.base HB3.out.size)
  have HASC := hide hasc
  have HMEM := hide hmem
  have HB4 : Hid (Below w.heap.size w w4) := HB3.out.trans ⟨hk4.os, hk4.tape, hk4.output, hk4.size, fun k hk => hk4.block k ⟨Nat.lt_of_lt_of_le hk HB3.out.size, fun e => hkn (by rw [← e]; exact Nat.lt_of_lt_of_le hk HB02.out.size), fun e => hkg (by rw [← e]; exact Nat.lt_of_lt_of_le hk HB02.out.size)⟩⟩
  clear hn hasc hmem hkg hkn hk4
  go_wp2
  go_ret
  exact ⟨_, l, rfl, HN4.out, HASC.out, HMEM.out, HB4.out⟩
end Go.Proofs.YtlaeenfeajkcfalGreat.Fr
