/- Made of YJ, YK, YL, YM. -/
import Derived.Test.YtlaeenfeajkcfalGreatSP
import Derived.Test.YtlaeenfeajkcfalGreatSJ
namespace Go.Proofs.YtlaeenfeajkcfalGreat
open Go.ChangeShapes Go.WideShapes Go.ChangeAt Go.RowKit

/-- What was below B is there still, but for one block. -/
structure Kp (B cb : Nat) (w w' : World) : Prop where
  os : w'.os = w.os
  tape : w'.tape = w.tape
  output : w'.output = w.output
  size : w.heap.size ≤ w'.heap.size
  block : ∀ k, k < B → k ≠ cb → w'.heap[k]? = w.heap[k]?
theorem Kp.refl (B cb : Nat) (w : World) : Kp B cb w w := ⟨rfl, rfl, rfl, Nat.le_refl _, fun _ _ _ => rfl⟩
theorem Kp.of {B cb : Nat} {w w' : World} (h : Below B w w') : Kp B cb w w' := ⟨h.os, h.tape, h.output, h.size, fun k hk _ => h.block k hk⟩
theorem Kp.trans {B cb : Nat} {a b c : World} (h : Kp B cb a b) (k : Kp B cb b c) : Kp B cb a c := ⟨k.os.trans h.os, k.tape.trans h.tape, k.output.trans h.output, Nat.le_trans h.size k.size, fun x hx hn => (k.block x hx hn).trans (h.block x hx hn)⟩
theorem Kp.mono {B B' cb : Nat} {a b : World} (h : Kp B cb a b) (hB : B' ≤ B) : Kp B' cb a b := ⟨h.os, h.tape, h.output, h.size, fun x hx hn => h.block x (Nat.lt_of_lt_of_le hx hB) hn⟩
theorem Kp.on {cb : Nat} {a b c : World} (h : Kp a.heap.size cb a b) (k : Kp b.heap.size cb b c) : Kp a.heap.size cb a c := h.trans (k.mono h.size)
theorem Kp.then {cb : Nat} {a b c : World} (h : Kp a.heap.size cb a b) (k : Below b.heap.size b c) : Kp a.heap.size cb a c := h.on (Kp.of k)
theorem kp_set (B cb : Nat) (w : World) (v : Value) : Kp B cb w (w.setCell ⟨cb, 0, none⟩ v) := by
  have h := (Below.refl 0 w).setCell (p := ⟨cb, 0, none⟩) (Nat.zero_le _) v
  exact ⟨h.os, h.tape, h.output, h.size, fun k _ hn => heap_set_other v hn⟩
def NeK (cb : Nat) : Nat → Prop := fun b => b ≠ cb
theorem Kp.stays {cb : Nat} {w w' : World} (h : Kp w.heap.size cb w w') : Stays (NeK cb) w w' := ⟨h.size, fun b hb hl => h.block b hl hb⟩
def Ctr (w : World) (cb : Nat) (n : Int) : Prop := w.heap[cb]? = some (.cells #[.int .i64 n] 83 (0, 0))
theorem Ctr.later {w w' : World} {cb : Nat} {n : Int} (h : Ctr w cb n) (hb : Below w.heap.size w w') : Ctr w' cb n := (hb.block cb (heap_lt h)).trans h
theorem Ctr.set {w : World} {cb : Nat} {n m : Int} (h : Ctr w cb n) : Ctr (w.setCell ⟨cb, 0, none⟩ (.int .i64 m)) cb m := heap_set_same _ h

/-- So many are right, and all together no more than 200. -/
def goodTo (f : Tr → Int → Bool) (g : Tr → Nat) (xs : List Tr) (d : Int) (n i : Nat) : Bool := allZ f (xs.take i) d && decide (n + sumZ g (xs.take i) ≤ 200)
def goodB (f : Tr → Int → Bool) (g : Tr → Nat) (xs : List Tr) (d : Int) (n : Nat) : Bool := allZ f xs d && decide (n + sumZ g xs ≤ 200)
theorem goodTo_len (f : Tr → Int → Bool) (g : Tr → Nat) (xs : List Tr) (d : Int) (n : Nat) : goodTo f g xs d n xs.length = goodB f g xs d n := by
  unfold goodTo goodB
  rw [List.take_length]
theorem goodTo_next {f : Tr → Int → Bool} {g : Tr → Nat} {xs : List Tr} {d : Int} {n i : Nat} {x : Tr} (hx : xs[i]? = some x) (h : goodTo f g xs d n i = true) : goodTo f g xs d n (i + 1) = (f x d && decide (n + sumZ g (xs.take i) + g x ≤ 200)) := by
  unfold goodTo at *
  rw [Bool.and_eq_true] at h
  rw [allZ_take f xs d i x hx, sumZ_take g xs i x hx, h.1, Bool.true_and, Nat.add_assoc]
theorem goodTo_false {f : Tr → Int → Bool} {g : Tr → Nat} {xs : List Tr} {d : Int} {n i : Nat} (h : goodTo f g xs d n i = false) : goodB f g xs d n = false := by
  unfold goodTo at h
  unfold goodB
  rw [allZ_split f xs d i, sumZ_split g xs i]
  cases ha : allZ f (xs.take i) d
  · rfl
  · rw [ha, Bool.true_and] at h
    have := of_decide_eq_false h
    rw [decide_eq_false (by omega), Bool.and_false]
theorem goodTo_le {f : Tr → Int → Bool} {g : Tr → Nat} {xs : List Tr} {d : Int} {n i : Nat} (h : goodTo f g xs d n i = true) : n + sumZ g (xs.take i) ≤ 200 := by
  unfold goodTo at h
  rw [Bool.and_eq_true] at h
  exact of_decide_eq_true h.2

def Cres (cb n : Nat) (w : World) (ok : Bool) (c : Nat) (e : Ending) (w' : World) : Prop := ∃ n' : Nat, e = .returned (.bool ok) ∧ Ctr w' cb n' ∧ (ok = true → n' = n + c) ∧ Kp w.heap.size cb w w'
def ChEx (h : Nat) : Prop := ∀ (x : Tr) (cs : List Value) (w : World) (cb n : Nat) (d : Int), (reads (NeK cb) w h).ex x cs → Ctr w cb n → n ≤ 200 → -2 ≤ d → d ≤ 14 → Calls Tryz.prog 119 #[.pointer (some ⟨cb, 0, none⟩), .agg cs.toArray, .int .i64 d] w (Cres cb n w ((okz h).ex x d && decide (n + (cnt h).ex x ≤ 200)) ((cnt h).ex x))
def ChDe (h : Nat) : Prop := ∀ (x : Tr) (cs : List Value) (w : World) (cb n : Nat) (d : Int), (reads (NeK cb) w h).de x cs → Ctr w cb n → n ≤ 200 → -2 ≤ d → d ≤ 13 → Calls Tryz.prog 68 #[.pointer (some ⟨cb, 0, none⟩), .agg cs.toArray, .int .i64 d] w (Cres cb n w ((okz h).de x d && decide (n + (cnt h).de x ≤ 200)) ((cnt h).de x))
def ChPs (h : Nat) : Prop := ∀ (xs : List Tr) (o : Option Addr) (c : Nat) (w : World) (cb n : Nat) (d : Int), RowOf (NeK cb) w (reads (NeK cb) w h).ex 6 o xs → xs.length ≤ maxLen → Ctr w cb n → n ≤ 200 → -2 ≤ d → d ≤ 13 → Calls Tryz.prog 96 #[.pointer (some ⟨cb, 0, none⟩), .int .i64 d, .slice o xs.length c] w (Cres cb n w (goodB (okz h).ex (cnt h).ex xs (d + 1) n) (sumZ (cnt h).ex xs))
def ChAs (h : Nat) : Prop := ∀ (xs : List Tr) (o : Option Addr) (c : Nat) (w : World) (cb n : Nat) (d : Int), RowOf (NeK cb) w (reads (NeK cb) w h).al 8 o xs → xs.length ≤ maxLen → Ctr w cb n → n ≤ 200 → -2 ≤ d → d ≤ 13 → Calls Tryz.prog 148 #[.pointer (some ⟨cb, 0, none⟩), .slice o xs.length c, .int .i64 d] w (Cres cb n w (inB xs.length 1 6 && goodB (fun a d => altB a && (okz h).al a d) (cnt h).al xs (d + 1) n) (sumZ (cnt h).al xs))
def ChDs (h : Nat) : Prop := ∀ (xs : List Tr) (o : Option Addr) (c : Nat) (w : World) (cb n : Nat) (m d : Int), RowOf (NeK cb) w (reads (NeK cb) w h).de 9 o xs → xs.length ≤ maxLen → Ctr w cb n → n ≤ 200 → 0 ≤ m → m ≤ 12 → -2 ≤ d → d ≤ 13 → Calls Tryz.prog 36 #[.pointer (some ⟨cb, 0, none⟩), .slice o xs.length c, .int .i64 m, .int .i64 d] w (Cres cb n w (decsB (okz h).de xs m d && decide (n + sumZ (cnt h).de xs ≤ 200)) (sumZ (cnt h).de xs))

set_option maxHeartbeats 1000000 in
set_option maxRecDepth 100000 in
theorem partsOk_of {h : Nat} (hE : ChEx h) : ChPs h := by
  intro xs o c w cb n d hm hl hc hn h0 h1
  have HE := hide hE
  have HM := hide hm
  have HC := hide hc
  have hl2 : xs.length ≤ 9223372036854775807 := hl
  clear hE hm hc hl
  go_enter Tryz.func96, Tryz.ntmps96
  go_wp2
  go_loopw [11] (fun t wr => ∃ (i : Nat), i ≤ xs.length ∧ t = .int .i64 i ∧ goodTo (okz h).ex (cnt h).ex xs (d + 1) n i = true ∧ Ctr wr cb ((n + sumZ (cnt h).ex (xs.take i) : Nat) : Int) ∧ Kp w.heap.size cb w wr) (fun t _ => xs.length - (intOf t).toNat)
  case atStart => exact ⟨0, Nat.zero_le _, rfl, by simp [goodTo, allZ, sumZ, hn], by simpa [sumZ] using HC.out, Kp.refl _ _ _⟩
  case round =>
    obtain ⟨i, hi, rfl, hg, hcr, hkp⟩ := hrel
    have hle := goodTo_le hg
    have HG := hide hg
    have HCR := hide hcr
    have HKP := hide hkp
    clear hg hcr hkp
    by_cases hlt : i < xs.length
    · have hne : xs ≠ [] := by intro e; rw [e] at hlt; simp at hlt
      obtain ⟨x, hx⟩ : ∃ x, xs[i]? = some x := ⟨xs[i], List.getElem?_eq_getElem hlt⟩
      have st := HKP.out.stays
      obtain ⟨b, off, eo, hbn, hbl, hcs⟩ := (HM.out.frame st (fun _ h => h) (reads_frame st (fun _ h => h) h).1) hne
      subst eo
      obtain ⟨cs, hlen, hkey, hrd⟩ := hcs i x hx
      obtain ⟨p1, g1, p2, g2, p3, g3, rfl⟩ := ex_form hrd
      have q0 := hkey 0 _ rfl
      have q1 := hkey 1 _ rfl
      have q2 := hkey 2 _ rfl
      have q3 := hkey 3 _ rfl
      have q4 := hkey 4 _ rfl
      have q5 := hkey 5 _ rfl
      rw [Nat.add_zero] at q0
      have HX := hide hx
      have HRD := hide hrd
      clear hcs hx hne hkey hlen hrd st
      have hlt2 : (i : Int) < xs.length := by omega
      have HA0 : Hid (Below wr.heap.size wr (wr.alloc (.cells #[.int .i64 x.k, .string x.s, .int .i64 x.n, .slice p1 x.l.length g1, .slice p2 x.ds.length g2, .slice p3 x.al.length g3] 75))) := (Below.refl _ wr).alloc (Nat.le_refl _) _
      go_wp2_with fail
      refine (HE.out x _ _ cb (n + sumZ (cnt h).ex (xs.take i)) (d + 1) ((reads_later HA0.out h).1 _ _ HRD.out) (HCR.out.later HA0.out) hle (by omega) (by omega)).mono ?_
      rintro e w1 ⟨n', rfl, hc1, hn1, hk1⟩
      have hgn := goodTo_next HX.out HG.out
      rw [← hgn]
      have HN1 : Hid (goodTo (okz h).ex (cnt h).ex xs (d + 1) n (i + 1) = true → n' = n + sumZ (cnt h).ex (xs.take i) + (cnt h).ex x) := by rw [hgn]; exact hn1
      have HC1 := hide hc1
      have HK1 := hide ((HKP.out.then HA0.out).on hk1)
      clear hc1 hn1 hk1 hgn
      cases hgg : goodTo (okz h).ex (cnt h).ex xs (d + 1) n (i + 1)
      · have HGG := hide hgg
        clear hgg
        go_wp2
        go_ret
        exact ⟨n', ret_bool (goodTo_false HGG.out).symm, HC1.out, (fun hx => by rw [goodTo_false HGG.out] at hx; cases hx), HK1.out⟩
      · have HGG := hide hgg
        clear hgg
        go_wp2
        refine ⟨⟨i + 1, by omega, by go_num, HGG.out, ?_, HK1.out⟩, by simp [intOf]; omega⟩
        have h2 := HC1.out
        rw [HN1.out HGG.out] at h2
        rw [sumZ_take _ _ _ _ HX.out, ← Nat.add_assoc]
        exact h2
    · go_wp2
      go_ret
      have hie : i = xs.length := by omega
      have h2 := HG.out
      have h3 := HCR.out
      rw [hie, goodTo_len] at h2
      rw [hie, List.take_length] at h3
      exact ⟨_, ret_bool h2.symm, h3, fun _ => rfl, HKP.out⟩

theorem filled1 {R : Tr → List Value → Prop} {y : Tr} {a0 a1 a2 a3 a4 a5 : Value} (h : R y [a0, a1, a2, a3, a4, a5]) : Filled R 6 #[a0, a1, a2, a3, a4, a5] [y] := by
  intro k x hx
  match k, hx with
  | 0, hx =>
    have : y = x := by simpa using hx
    subst this
    exact ⟨_, rfl, fun j u hu => by simpa using hu, h⟩
  | k + 1, hx => simp at hx
theorem good_one (f : Tr → Int → Bool) (g : Tr → Nat) (y : Tr) (d : Int) (n : Nat) : goodB f g [y] d n = (f y d && decide (n + g y ≤ 200)) := by simp [goodB, allZ, sumZ]

set_option maxHeartbeats 1000000 in
set_option maxRecDepth 100000 in
theorem altsOk_of {h : Nat} (hP : ChPs h) : ChAs (h + 1) := by
  intro xs o c w cb n d hm hl hc hn h0 h1
  have HP := hide hP
  have HM := hide hm
  have HC := hide hc
  have hl2 : xs.length ≤ 9223372036854775807 := hl
  clear hP hm hc hl
  cases hin : inB xs.length 1 6
  · have hor : (xs.length : Int) < 1 ∨ (¬ (xs.length : Int) < 1 ∧ 6 < (xs.length : Int)) := by
      unfold inB at hin
      simp at hin
      omega
    clear hin
    rcases hor with ha | ⟨ha, hb⟩
    all_goals
      go_enter Tryz.func148, Tryz.ntmps148
      go_wp2
      go_ret
      exact ⟨n, ret_bool (by simp), HC.out, (fun hx => by simp at hx), Kp.refl _ _ _⟩
  have hb1 : ¬ (xs.length : Int) < 1 := by unfold inB at hin; simp at hin; omega
  have hb2 : ¬ 6 < (xs.length : Int) := by unfold inB at hin; simp at hin; omega
  clear hin
  go_enter Tryz.func148, Tryz.ntmps148
  go_wp2
  go_loopw [19] (fun t wr => ∃ (i : Nat), i ≤ xs.length ∧ t = .int .i64 i ∧ goodTo (fun a d => altB a && (okz (h + 1)).al a d) (cnt (h + 1)).al xs (d + 1) n i = true ∧ Ctr wr cb ((n + sumZ (cnt (h + 1)).al (xs.take i) : Nat) : Int) ∧ Kp w.heap.size cb w wr) (fun t _ => xs.length - (intOf t).toNat)
  case atStart => exact ⟨0, Nat.zero_le _, rfl, by simp [goodTo, allZ, sumZ, hn], by simpa [sumZ] using HC.out, Kp.refl _ _ _⟩
  case round =>
    obtain ⟨i, hi, rfl, hg, hcr, hkp⟩ := hrel
    have hle := goodTo_le hg
    have HG := hide hg
    have HCR := hide hcr
    have HKP := hide hkp
    clear hg hcr hkp
    by_cases hlt : i < xs.length
    · have hne : xs ≠ [] := by intro e; rw [e] at hlt; simp at hlt
      obtain ⟨x, hx⟩ : ∃ x, xs[i]? = some x := ⟨xs[i], List.getElem?_eq_getElem hlt⟩
      have st := HKP.out.stays
      obtain ⟨b, off, eo, hbn, hbl, hcs⟩ := (HM.out.frame st (fun _ h => h) (reads_frame st (fun _ h => h) (h + 1)).2.2) hne
      subst eo
      obtain ⟨cs, hlen, hkey, hrd⟩ := hcs i x hx
      have HRA := hide hrd
      obtain ⟨-, -, -, -, y, p0, g0, ce, hy, hce0, hss, hll, qs, hce, qe⟩ := hrd
      obtain ⟨p1, g1, p2, g2, p3, g3, rfl⟩ := ex_form qe
      subst hce0
      have q0 := hkey 0 (.string x.s) rfl
      have q1 := hkey 1 (.slice p0 x.ss.length g0) rfl
      have q2 := hkey 2 (.int .i64 y.k) rfl
      have q3 := hkey 3 (.string y.s) rfl
      have q4 := hkey 4 (.int .i64 y.n) rfl
      have q5 := hkey 5 (.slice p1 y.l.length g1) rfl
      have q6 := hkey 6 (.slice p2 y.ds.length g2) rfl
      have q7 := hkey 7 (.slice p3 y.al.length g3) rfl
      rw [Nat.add_zero] at q0
      have HX := hide hx
      have HY := hide hy
      have HQE := hide qe
      clear hcs hx hne hkey hlen hy hss hll qs hce qe st
      have hlt2 : (i : Int) < xs.length := by omega
      have HF : Hid (∀ D, (altB x && (okz (h + 1)).al x D) = (altB x && (okz h).ex y D)) := by
        intro D
        show (altB x && allZ (okz h).ex x.l D) = _
        rw [HY.out]
        simp [allZ]
      have HCN : Hid ((cnt (h + 1)).al x = (cnt h).ex y) := by
        show sumZ (cnt h).ex x.l = _
        rw [HY.out]
        simp [sumZ]
      have HA0 : Hid (Below wr.heap.size wr (wr.alloc (.cells #[.string x.s, .slice p0 x.ss.length g0, .int .i64 y.k, .string y.s, .int .i64 y.n, .slice p1 y.l.length g1, .slice p2 y.ds.length g2, .slice p3 y.al.length g3] 116))) := (Below.refl _ wr).alloc (Nat.le_refl _) _
      have HX0 : Hid ((wr.alloc (.cells #[.string x.s, .slice p0 x.ss.length g0, .int .i64 y.k, .string y.s, .int .i64 y.n, .slice p1 y.l.length g1, .slice p2 y.ds.length g2, .slice p3 y.al.length g3] 116)).heap[wr.heap.size]? = some (.cells #[.string x.s, .slice p0 x.ss.length g0, .int .i64 y.k, .string y.s, .int .i64 y.n, .slice p1 y.l.length g1, .slice p2 y.ds.length g2, .slice p3 y.al.length g3] 116 (0, 0))) := heap_alloc_new wr _
      cases hab : altB x
      · have HAB := hide hab
        clear hab
        go_wp2_with fail
        refine (patOk_any ((reads_later HA0.out (h + 1)).2.2 _ _ HRA.out)).mono ?_
        rintro e w1 ⟨rfl, hb⟩
        rw [HAB.out]
        have HB1 := hide (HA0.out.trans (hb.mono HA0.out.size))
        clear hb
        go_wp2
        go_ret
        have hgf : goodTo (fun a d => altB a && (okz (h + 1)).al a d) (cnt (h + 1)).al xs (d + 1) n (i + 1) = false := by
          rw [goodTo_next HX.out HG.out]
          show ((altB x && _) && _) = false
          rw [HAB.out]
          rfl
        exact ⟨_, ret_bool (by rw [goodTo_false hgf, Bool.and_false]), HCR.out.later HB1.out, (fun hx => by rw [goodTo_false hgf, Bool.and_false] at hx; cases hx), HKP.out.then HB1.out⟩
      · have HAB := hide hab
        clear hab
        go_wp2_with fail
        refine (patOk_any ((reads_later HA0.out (h + 1)).2.2 _ _ HRA.out)).mono ?_
        rintro e w1 ⟨rfl, hb⟩
        rw [HAB.out]
        have HB1 := hide (HA0.out.trans (hb.mono HA0.out.size))
        have HX1 := hide ((hb.block wr.heap.size (heap_lt HX0.out)).trans HX0.out)
        clear hb
        have r2 := cell_of HX1.out 2
        have r3 := cell_of HX1.out 3
        have r4 := cell_of HX1.out 4
        have r5 := cell_of HX1.out 5
        have r6 := cell_of HX1.out 6
        have r7 := cell_of HX1.out 7
        simp only [List.getElem?_toArray, List.getElem?_cons_succ, List.getElem?_cons_zero] at r2 r3 r4 r5 r6 r7
        have HA1 : Hid (Below w1.heap.size w1 (w1.alloc (.cells #[.int .i64 y.k, .string y.s, .int .i64 y.n, .slice p1 y.l.length g1, .slice p2 y.ds.length g2, .slice p3 y.al.length g3] 75))) := (Below.refl _ w1).alloc (Nat.le_refl _) _
        have HB2 := hide (HB1.out.trans (HA1.out.mono HB1.out.size))
        have hcb : cb < wr.heap.size := heap_lt HCR.out
        have HROW : Hid (RowOf (NeK cb) (w1.alloc (.cells #[.int .i64 y.k, .string y.s, .int .i64 y.n, .slice p1 y.l.length g1, .slice p2 y.ds.length g2, .slice p3 y.al.length g3] 75)) (reads (NeK cb) (w1.alloc (.cells #[.int .i64 y.k, .string y.s, .int .i64 y.n, .slice p1 y.l.length g1, .slice p2 y.ds.length g2, .slice p3 y.al.length g3] 75)) h).ex 6 (some ⟨w1.heap.size, 0, none⟩) [y]) :=
          (filled1 ((reads_later HB2.out h).1 _ _ HQE.out)).row (heap_alloc_new w1 _) (by show w1.heap.size ≠ cb; have := HB1.out.size; omega)
        go_wp2_with fail
        refine (HP.out [y] _ 1 _ cb (n + sumZ (cnt (h + 1)).al (xs.take i)) d HROW.out (show 1 ≤ maxLen by decide) (HCR.out.later HB2.out) hle h0 h1).mono ?_
        rintro e w2 ⟨n', rfl, hc1, hn1, hk1⟩
        have hgn := goodTo_next HX.out HG.out
        have hgo : goodB (okz h).ex (cnt h).ex [y] (d + 1) (n + sumZ (cnt (h + 1)).al (xs.take i)) = goodTo (fun a d => altB a && (okz (h + 1)).al a d) (cnt (h + 1)).al xs (d + 1) n (i + 1) := by
          rw [hgn, good_one]
          show _ = ((altB x && (okz (h + 1)).al x (d + 1)) && _)
          rw [HF.out, HAB.out, Bool.true_and, HCN.out]
        rw [hgo]
        have HN1 : Hid (goodTo (fun a d => altB a && (okz (h + 1)).al a d) (cnt (h + 1)).al xs (d + 1) n (i + 1) = true → n' = n + sumZ (cnt (h + 1)).al (xs.take i) + (cnt (h + 1)).al x) := by
          rw [← hgo, HCN.out]
          intro hx
          have := hn1 hx
          simpa [sumZ] using this
        have HC1 := hide hc1
        have HK1 := hide ((HKP.out.then HB2.out).on hk1)
        clear hc1 hn1 hk1 hgn hgo
        cases hgg : goodTo (fun a d => altB a && (okz (h + 1)).al a d) (cnt (h + 1)).al xs (d + 1) n (i + 1)
        · have HGG := hide hgg
          clear hgg
          go_wp2
          go_ret
          exact ⟨n', ret_bool (by rw [goodTo_false HGG.out, Bool.and_false]), HC1.out, (fun hx => by rw [goodTo_false HGG.out, Bool.and_false] at hx; cases hx), HK1.out⟩
        · have HGG := hide hgg
          clear hgg
          go_wp2
          refine ⟨⟨i + 1, by omega, by go_num, HGG.out, ?_, HK1.out⟩, by simp [intOf]; omega⟩
          have h2 := HC1.out
          rw [HN1.out HGG.out] at h2
          rw [sumZ_take _ _ _ _ HX.out, ← Nat.add_assoc]
          exact h2
    · go_wp2
      go_ret
      have hie : i = xs.length := by omega
      have h2 := HG.out
      have h3 := HCR.out
      rw [hie, goodTo_len] at h2
      rw [hie, List.take_length] at h3
      exact ⟨_, ret_bool (by rw [h2]; rfl), h3, fun _ => rfl, HKP.out⟩
end Go.Proofs.YtlaeenfeajkcfalGreat
namespace Go.Proofs.YtlaeenfeajkcfalGreat
open Go.ChangeShapes Go.WideShapes Go.ChangeAt Go.RowKit

set_option maxHeartbeats 1000000 in
set_option maxRecDepth 100000 in
theorem decOk_of {h : Nat} (hP : ChPs h) (hD : ChDs h) : ChDe (h + 1) := by
  intro x cs w cb n d hr hc hn h0 h1
  obtain ⟨-, -, -, y, p0, g0, ce, p4, g4, hy, rfl, hs, hf1, hf2, qs, hce, qe, qd⟩ := hr
  obtain ⟨p1, g1, p2, g2, p3, g3, rfl⟩ := ex_form qe
  simp only [List.cons_append, List.nil_append]
  have HP := hide hP
  have HD := hide hD
  have HC := hide hc
  have HS := hide hs
  have HF1 := hide hf1
  have HF2 := hide hf2
  have QS := hide qs
  have QE := hide qe
  have QD := hide qd
  have hcb : cb < w.heap.size := heap_lt hc
  have hd2 : x.ds.length ≤ 9223372036854775807 := hf2.1
  have HOK : Hid ((okz (h + 1)).de x d = ((nmB x.s && varsB x.ss) && ((okz h).ex y (d + 1) && (decide (x.ds.length = 0) || decsB (okz h).de x.ds 6 (d + 1))))) := by
    show ((nmB x.s && varsB x.ss) && (allZ (okz h).ex x.l (d + 1) && _)) = _
    rw [hy]
    simp [allZ]
  have HCN : Hid ((cnt (h + 1)).de x = (cnt h).ex y + sumZ (cnt h).de x.ds) := by
    show sumZ (cnt h).ex x.l + _ = _
    rw [hy]
    simp [sumZ]
  clear hP hD hc hs hf1 hf2 qs qe qd hce hy
  have HX0 : Hid ((w.alloc (.cells #[.string x.s, .slice p0 x.ss.length g0, .int .i64 y.k, .string y.s, .int .i64 y.n, .slice p1 y.l.length g1, .slice p2 y.ds.length g2, .slice p3 y.al.length g3, .slice p4 x.ds.length g4] 77)).heap[w.heap.size]? = some (.cells #[.string x.s, .slice p0 x.ss.length g0, .int .i64 y.k, .string y.s, .int .i64 y.n, .slice p1 y.l.length g1, .slice p2 y.ds.length g2, .slice p3 y.al.length g3, .slice p4 x.ds.length g4] 77 (0, 0))) := heap_alloc_new w _
  have HB0 : Hid (Below w.heap.size w (w.alloc (.cells #[.string x.s, .slice p0 x.ss.length g0, .int .i64 y.k, .string y.s, .int .i64 y.n, .slice p1 y.l.length g1, .slice p2 y.ds.length g2, .slice p3 y.al.length g3, .slice p4 x.ds.length g4] 77))) := (Below.refl _ w).alloc (Nat.le_refl _) _
  cases hnm : nmB x.s
  · have HNM : Hid (nameB x.s.data.toList = false) := hnm
    have HNM2 := hide hnm
    clear hnm
    go_enter Tryz.func68, Tryz.ntmps68
    go_wp2_with fail
    refine (implName_any _ _ HS.out).mono ?_
    rintro e w1 ⟨rfl, hb⟩
    rw [HNM.out]
    have HB1 := hide (HB0.out.trans (hb.mono HB0.out.size))
    clear hb
    go_wp2
    go_ret
    exact ⟨n, ret_bool (by rw [HOK.out, HNM2.out]; rfl), HC.out.later HB1.out, (fun hx => by rw [HOK.out, HNM2.out] at hx; cases hx), Kp.of HB1.out⟩
  have HNM : Hid (nameB x.s.data.toList = true) := hnm
  have HNM2 := hide hnm
  clear hnm
  cases hva : varsB x.ss
  all_goals
    have HVA := hide hva
    clear hva
    go_enter Tryz.func68, Tryz.ntmps68
    go_wp2_with fail
    refine (implName_any _ _ HS.out).mono ?_
    rintro e w1 ⟨rfl, hb⟩
    rw [HNM.out]
    have HB1 := hide (HB0.out.trans (hb.mono HB0.out.size))
    have HX1 := hide ((hb.block w.heap.size (heap_lt HX0.out)).trans HX0.out)
    clear hb
    have b1 := cell_of HX1.out 1
    simp only [List.getElem?_toArray, List.getElem?_cons_succ, List.getElem?_cons_zero] at b1
    go_wp2_with fail
    refine (parsOk_any x.ss p0 g0 _ HF1.out.1 HF1.out.2 (QS.out.later HB1.out fun _ _ h => h)).mono ?_
    rintro e w2 ⟨rfl, hb⟩
    rw [HVA.out]
    have HB2 := hide (HB1.out.trans (hb.mono HB1.out.size))
    have HX2 := hide ((hb.block w.heap.size (heap_lt HX1.out)).trans HX1.out)
    clear hb b1
  · go_wp2
    go_ret
    exact ⟨n, ret_bool (by rw [HOK.out, HVA.out]; simp), HC.out.later HB2.out, (fun hx => by rw [HOK.out, HVA.out] at hx; simp at hx), Kp.of HB2.out⟩
  · have c2 := cell_of HX2.out 2
    have c3 := cell_of HX2.out 3
    have c4 := cell_of HX2.out 4
    have c5 := cell_of HX2.out 5
    have c6 := cell_of HX2.out 6
    have c7 := cell_of HX2.out 7
    simp only [List.getElem?_toArray, List.getElem?_cons_succ, List.getElem?_cons_zero] at c2 c3 c4 c5 c6 c7
    have HA1 : Hid (Below w2.heap.size w2 (w2.alloc (.cells #[.int .i64 y.k, .string y.s, .int .i64 y.n, .slice p1 y.l.length g1, .slice p2 y.ds.length g2, .slice p3 y.al.length g3] 75))) := (Below.refl _ w2).alloc (Nat.le_refl _) _
    have HB3 := hide (HB2.out.trans (HA1.out.mono HB2.out.size))
    have HX3 := hide ((HA1.out.block w.heap.size (heap_lt HX2.out)).trans HX2.out)
    have HROW : Hid (RowOf (NeK cb) (w2.alloc (.cells #[.int .i64 y.k, .string y.s, .int .i64 y.n, .slice p1 y.l.length g1, .slice p2 y.ds.length g2, .slice p3 y.al.length g3] 75)) (reads (NeK cb) (w2.alloc (.cells #[.int .i64 y.k, .string y.s, .int .i64 y.n, .slice p1 y.l.length g1, .slice p2 y.ds.length g2, .slice p3 y.al.length g3] 75)) h).ex 6 (some ⟨w2.heap.size, 0, none⟩) [y]) :=
      (filled1 ((reads_later HB3.out h).1 _ _ QE.out)).row (heap_alloc_new w2 _) (by show w2.heap.size ≠ cb; have := HB2.out.size; omega)
    go_wp2_with fail
    refine (HP.out [y] _ 1 _ cb n d HROW.out (show 1 ≤ maxLen by decide) (HC.out.later HB3.out) hn (by omega) (by omega)).mono ?_
    rintro e w3 ⟨n', rfl, hc1, hn1, hk1⟩
    rw [good_one]
    have HN1 : Hid (((okz h).ex y (d + 1) && decide (n + (cnt h).ex y ≤ 200)) = true → n' = n + (cnt h).ex y) := by
      intro hx
      rw [good_one] at hn1
      have := hn1 hx
      simpa [sumZ] using this
    have HC1 := hide hc1
    have HK1 := hide ((Kp.of (cb := cb) HB3.out).on hk1)
    have HX4 := hide ((hk1.block w.heap.size (heap_lt HX3.out) (by omega)).trans HX3.out)
    clear hc1 hn1 hk1
    cases hg : ((okz h).ex y (d + 1) && decide (n + (cnt h).ex y ≤ 200))
    · have HG := hide hg
      clear hg
      go_wp2
      go_ret
      have hf : ((okz (h + 1)).de x d && decide (n + (cnt (h + 1)).de x ≤ 200)) = false := by
        rw [HOK.out, HCN.out]
        have h2 := HG.out
        cases hq : (okz h).ex y (d + 1)
        · simp
        · rw [hq, Bool.true_and] at h2
          have := of_decide_eq_false h2
          rw [decide_eq_false (show ¬ n + ((cnt h).ex y + sumZ (cnt h).de x.ds) ≤ 200 by omega), Bool.and_false]
      exact ⟨n', ret_bool hf.symm, HC1.out, (fun hx => by rw [hf] at hx; cases hx), HK1.out⟩
    · have hg2 := hg
      rw [Bool.and_eq_true] at hg2
      have hle := of_decide_eq_true hg2.2
      have hdeep := okz_deep hg2.1
      have HGE := hide hg2.1
      have HG := hide hg
      clear hg hg2
      have HNE := hide (HN1.out HG.out)
      have e8 := cell_of HX4.out 8
      simp only [List.getElem?_toArray, List.getElem?_cons_succ, List.getElem?_cons_zero] at e8
      by_cases hds : x.ds.length = 0
      · have hds2 : (x.ds.length == 0) = true := by simpa using hds
        have hds3 : ((x.ds.length : Int) == 0) = true := by simpa using hds
        have HDS := hide hds
        clear hds
        go_wp2
        go_ret
        have ht : ((okz (h + 1)).de x d && decide (n + (cnt (h + 1)).de x ≤ 200)) = true := by
          rw [HOK.out, HCN.out, HNM2.out, HVA.out, HGE.out, decide_eq_true HDS.out, List.length_eq_zero_iff.1 HDS.out]
          simpa [sumZ] using hle
        refine ⟨n', ret_bool ht.symm, HC1.out, fun _ => ?_, HK1.out⟩
        rw [HNE.out, HCN.out, List.length_eq_zero_iff.1 HDS.out]
        simp [sumZ]
      · have hds2 : (x.ds.length == 0) = false := by simpa using hds
        have hds3 : ((x.ds.length : Int) == 0) = false := by simpa using hds
        have HDS := hide hds
        clear hds
        have hn' : n' ≤ 200 := by rw [HNE.out]; exact hle
        have st := HK1.out.stays
        go_wp2_with fail
        refine (HD.out x.ds p4 g4 _ cb n' 6 (d + 1) (QD.out.frame st (fun _ h => h) (reads_frame st (fun _ h => h) h).2.1) HF2.out.1 HC1.out hn' (by omega) (by omega) (by omega) (by omega)).mono ?_
        rintro e w4 ⟨n'', rfl, hc2, hn2, hk2⟩
        have HN2 := hide hn2
        have HC2 := hide hc2
        have HK2 := hide (HK1.out.on hk2)
        clear hn2 hc2 hk2 st
        go_wp2
        go_ret
        have ht : ((okz (h + 1)).de x d && decide (n + (cnt (h + 1)).de x ≤ 200)) = (decsB (okz h).de x.ds 6 (d + 1) && decide (n' + sumZ (cnt h).de x.ds ≤ 200)) := by
          rw [HOK.out, HCN.out, HNM2.out, HVA.out, HGE.out, decide_eq_false HDS.out, HNE.out, Nat.add_assoc]
          simp
        refine ⟨n'', ret_bool ht.symm, HC2.out, fun hx => ?_, HK2.out⟩
        rw [ht] at hx
        rw [HN2.out hx, HCN.out, HNE.out, Nat.add_assoc]

theorem cell1_at (W : World) (a : Value) (t : TypeId) : ∀ (j : Nat) (u : Value), [a][j]? = some u → (W.alloc (.cells #[a] t)).cell? ((⟨W.heap.size, 0, none⟩ : Addr).add j) = some u := by
  intro j u hj
  match j, hj with
  | 0, hj => simp at hj; subst hj; simp [Addr.add]
  | j + 1, hj => simp at hj
theorem str_one (s : ByteArray) : ∀ u ∈ [Value.string s], u.oneCell' = true := by
  intro u hu
  simp only [List.mem_cons, List.not_mem_nil, or_false] at hu
  subst hu
  rfl
/-- An owned row of texts, read. -/
theorem strs_of {w : World} {base : Nat} {e : TypeId} {v : Value} {xs : List ByteArray} (h : w.ownsRow base e 1 v xs.length (xs.map Value.string)) (hs : ∀ s ∈ xs, s.size ≤ maxLen) : ∃ o cap, v = .slice o xs.length cap ∧ xs.length ≤ maxLen ∧ xs.length ≤ cap ∧ RowOf AllK w strR 1 o xs := by
  obtain ⟨hl, hc⟩ := h
  rcases hc with ⟨hv, h0⟩ | ⟨g, cap, cur, hv, hb, hg, hn, hcap, hsz, htk⟩
  · have hts : xs = [] := List.length_eq_zero_iff.1 h0
    subst hts
    exact ⟨none, 0, hv, Nat.zero_le _, Nat.zero_le _, fun h => absurd rfl h⟩
  · refine ⟨some ⟨g, 0, none⟩, cap, hv, by omega, hn, fun _ => ⟨g, 0, rfl, trivial, heap_lt hg, fun i x hx => ?_⟩⟩
    refine ⟨[.string x], rfl, fun j u hu => ?_, rfl, hs x (List.mem_of_getElem? hx)⟩
    have hj : j = 0 := by
      have := (List.getElem?_eq_some_iff.1 hu).1
      simp at this
      exact this
    subst hj
    have hu2 : Value.string x = u := by simpa using hu
    subst hu2
    have hi : i < xs.length := (List.getElem?_eq_some_iff.1 hx).1
    rw [Nat.zero_add, Nat.mul_one, Nat.add_zero]
    have htk2 : cur.toList.take xs.length = xs.map Value.string := by rw [← htk, Nat.mul_one]
    exact owns_cell hg htk2 i hi _ (by rw [List.getElem?_map, hx]; rfl)

set_option maxHeartbeats 1000000 in
set_option maxRecDepth 100000 in
theorem decsOk_of {h : Nat} (hD : ChDe h) : ChDs h := by
  intro xs o c w cb n m d hm hl hc hn hm0 hm1 h0 h1
  have HD := hide hD
  have HM := hide hm
  have HC := hide hc
  have hcb : cb < w.heap.size := heap_lt hc
  have hl2 : xs.length ≤ 9223372036854775807 := hl
  have HSZ : Hid (∀ (i : Nat) (x : Tr), xs[i]? = some x → x.s.size ≤ maxLen) := by
    intro i x hx
    have hne : xs ≠ [] := by intro e; rw [e] at hx; simp at hx
    obtain ⟨_, _, _, _, _, hcs⟩ := hm hne
    obtain ⟨_, _, _, hrd⟩ := hcs i x hx
    cases h with
    | zero => exact hrd.elim
    | succ h =>
      obtain ⟨-, -, -, y, p0, g0, ce, p4, g4, hy, -, hs, -⟩ := hrd
      exact hs
  have HNM : Hid (∀ (x : Tr) (D : Int), (okz h).de x D = true → nmB x.s = true) := by
    intro x D hx
    cases h with
    | zero => cases hx
    | succ h =>
      have h2 : ((nmB x.s && varsB x.ss) && _) = true := hx
      rw [Bool.and_eq_true, Bool.and_eq_true] at h2
      exact h2.1.1
  clear hD hm hc hl
  obtain ⟨i0, hi0, hz0, hz1, hz2⟩ := info_parts info_string
  cases hin : inB xs.length 1 m
  · have HIN : Hid (decsB (okz h).de xs m d = false) := by show decsB _ _ _ _ = false; unfold decsB; rw [hin]; rfl
    have hor : (xs.length : Int) < 1 ∨ (¬ (xs.length : Int) < 1 ∧ m < (xs.length : Int)) := by
      unfold inB at hin
      simp at hin
      omega
    clear hin
    rcases hor with ha | ⟨ha, hb⟩
    all_goals
      go_enter Tryz.func36, Tryz.ntmps36
      go_wp2
      go_ret
      exact ⟨n, ret_bool (by rw [HIN.out]; rfl), HC.out, (fun hx => by rw [HIN.out] at hx; cases hx), Kp.refl _ _ _⟩
  have HIN := hide hin
  have hb1 : ¬ (xs.length : Int) < 1 := by unfold inB at hin; simp at hin; omega
  have hb2 : ¬ m < (xs.length : Int) := by unfold inB at hin; simp at hin; omega
  have hb3 : xs.length ≤ 12 := by unfold inB at hin; simp at hin; omega
  clear hin
  go_enter Tryz.func36, Tryz.ntmps36
  go_wp2
  go_loopw [9, 24] (fun t9 t wr => ∃ (i : Nat), i ≤ xs.length ∧ t = .int .i64 i ∧ goodTo (okz h).de (cnt h).de xs d n i = true ∧ Ctr wr cb ((n + sumZ (cnt h).de (xs.take i) : Nat) : Int) ∧ wr.ownsRow w.heap.size 9 1 t9 i (((xs.map Tr.s).take i).map Value.string) ∧ Kp w.heap.size cb w wr) (fun _ t _ => xs.length - (intOf t).toNat)
  case atStart => exact ⟨0, Nat.zero_le _, rfl, by simp [goodTo, allZ, sumZ, hn], by simpa [sumZ] using HC.out.later ((Below.refl _ w).alloc (Nat.le_refl _) _), owns_empty w _ _, Kp.of ((Below.refl _ w).alloc (Nat.le_refl _) _)⟩
  case round =>
    obtain ⟨i, hi, rfl, hg, hcr, how, hkp⟩ := hrel
    have hle := goodTo_le hg
    have HG := hide hg
    have HCR := hide hcr
    have HKP := hide hkp
    have HOW := hide how
    clear hg hcr hkp how
    by_cases hlt : i < xs.length
    · have hne : xs ≠ [] := by intro e; rw [e] at hlt; simp at hlt
      obtain ⟨x, hx⟩ : ∃ x, xs[i]? = some x := ⟨xs[i], List.getElem?_eq_getElem hlt⟩
      have st := HKP.out.stays
      obtain ⟨b, off, eo, hbn, hbl, hcs⟩ := (HM.out.frame st (fun _ h => h) (reads_frame st (fun _ h => h) h).2.1) hne
      subst eo
      obtain ⟨cs, hlen, hkey, hrd⟩ := hcs i x hx
      obtain ⟨y, p0, g0, p1, g1, p2, g2, p3, g3, p4, g4, rfl⟩ := de_form hrd
      have q0 := hkey 0 _ rfl
      have q1 := hkey 1 _ rfl
      have q2 := hkey 2 _ rfl
      have q3 := hkey 3 _ rfl
      have q4 := hkey 4 _ rfl
      have q5 := hkey 5 _ rfl
      have q6 := hkey 6 _ rfl
      have q7 := hkey 7 _ rfl
      have q8 := hkey 8 _ rfl
      rw [Nat.add_zero] at q0
      have HX := hide hx
      have HRD := hide hrd
      clear hcs hx hne hkey hlen hrd st
      have hlt2 : (i : Int) < xs.length := by omega
      have HA0 : Hid (Below wr.heap.size wr (wr.alloc (.cells #[.string x.s, .slice p0 x.ss.length g0, .int .i64 y.k, .string y.s, .int .i64 y.n, .slice p1 y.l.length g1, .slice p2 y.ds.length g2, .slice p3 y.al.length g3, .slice p4 x.ds.length g4] 77))) := (Below.refl _ wr).alloc (Nat.le_refl _) _
      have HX0 : Hid ((wr.alloc (.cells #[.string x.s, .slice p0 x.ss.length g0, .int .i64 y.k, .string y.s, .int .i64 y.n, .slice p1 y.l.length g1, .slice p2 y.ds.length g2, .slice p3 y.al.length g3, .slice p4 x.ds.length g4] 77)).heap[wr.heap.size]? = some (.cells #[.string x.s, .slice p0 x.ss.length g0, .int .i64 y.k, .string y.s, .int .i64 y.n, .slice p1 y.l.length g1, .slice p2 y.ds.length g2, .slice p3 y.al.length g3, .slice p4 x.ds.length g4] 77 (0, 0))) := heap_alloc_new wr _
      have hcbw : cb < wr.heap.size := heap_lt HCR.out
      go_wp2_with fail
      refine (HD.out x _ _ cb (n + sumZ (cnt h).de (xs.take i)) d ((reads_later HA0.out h).2.1 _ _ HRD.out) (HCR.out.later HA0.out) hle (by omega) (by omega)).mono ?_
      rintro e w1 ⟨n', rfl, hc1, hn1, hk1⟩
      have hgn := goodTo_next HX.out HG.out
      rw [← hgn]
      have HN1 : Hid (goodTo (okz h).de (cnt h).de xs d n (i + 1) = true → n' = n + sumZ (cnt h).de (xs.take i) + (cnt h).de x) := by rw [hgn]; exact hn1
      have HC1 := hide hc1
      have HK1 := hide ((HKP.out.then HA0.out).on hk1)
      have HX1 := hide ((hk1.block wr.heap.size (heap_lt HX0.out) (by omega)).trans HX0.out)
      have HOW1 := hide (owns_block HOW.out (w' := w1) fun g hg => by
        have hg2 := owns_lt HOW.out g hg
        exact (hk1.block g (Nat.lt_of_lt_of_le hg2.1 HA0.out.size) (by omega)).trans (HA0.out.block g hg2.1))
      clear hc1 hn1 hk1 hgn
      cases hgg : goodTo (okz h).de (cnt h).de xs d n (i + 1)
      · have HGG := hide hgg
        clear hgg
        go_wp2
        go_ret
        have hf : (decsB (okz h).de xs m d && decide (n + sumZ (cnt h).de xs ≤ 200)) = false := by
          have h2 := goodTo_false HGG.out
          unfold goodB at h2
          unfold decsB
          cases ha : allZ (okz h).de xs d
          · simp
          · rw [ha, Bool.true_and] at h2
            rw [h2, Bool.and_false]
        exact ⟨n', ret_bool hf.symm, HC1.out, (fun hx => by rw [hf] at hx; cases hx), HK1.out⟩
      · have HGG := hide hgg
        clear hgg
        have r0 := cell_of HX1.out 0
        simp only [List.getElem?_toArray, List.getElem?_cons_zero] at r0
        go_wp2_with (at_builtin; refine wpList_append_own_at _ rfl (.tmp 33) (.tmp 36) 38 rfl w.heap.size 9 i0 _ 1 16 Tryz.underlying38 hi0 hz0 hz1 hz2 rfl (by decide) _ i (((xs.map Tr.s).take i).map Value.string) rfl (HOW1.out.alloc _) ⟨w1.heap.size, 0, none⟩ 1 1 [.string x.s] rfl rfl (cell1_at w1 _ _) (str_one _) (by unfold maxLen; omega) (by omega) (by have := HK1.out.size; simp; omega) ?_)
        intro v' w2 hown' hgrow hnil hloc
        have HA2 : Hid (Below w1.heap.size w1 (w1.alloc (.cells #[.string x.s] 9))) := (Below.refl _ w1).alloc (Nat.le_refl _) _
        have hrow : ∀ k, k < w.heap.size → some k ≠ Value.ownBlock _ := fun k hk e => absurd (owns_lt HOW1.out k e.symm).2 (by omega)
        have HC2 : Hid (Ctr w2 cb n') := (hgrow.block cb (Nat.lt_of_lt_of_le (heap_lt HC1.out) HA2.out.size) (hrow cb hcb)).trans (HC1.out.later HA2.out)
        have HK2 : Hid (Kp w.heap.size cb w w2) := by
          refine HK1.out.trans ((Kp.of (HA2.out.mono HK1.out.size)).trans ?_)
          exact ⟨hgrow.os, hgrow.tape, hgrow.output, hgrow.size, fun k hk _ => hgrow.block k (Nat.lt_of_lt_of_le hk (Nat.le_trans HK1.out.size HA2.out.size)) (hrow k hk)⟩
        have HOW2 := hide hown'
        clear hown' hgrow hnil hloc hrow
        go_wp2
        refine ⟨⟨i + 1, by omega, by go_num, HGG.out, ?_, ?_, HK2.out⟩, by simp [intOf]; omega⟩
        · have h2 := HC2.out
          rw [HN1.out HGG.out] at h2
          rw [sumZ_take _ _ _ _ HX.out, ← Nat.add_assoc]
          exact h2
        · have h2 := HOW2.out
          have he : ((xs.map Tr.s).take (i + 1)).map Value.string = ((xs.map Tr.s).take i).map Value.string ++ [.string x.s] := by
            rw [List.take_add_one, List.getElem?_map, HX.out]
            simp
          have he2 : List.take i (List.map (Value.string ∘ Tr.s) xs) = List.map Value.string (List.take i (List.map Tr.s xs)) := by simp [List.map_take]
          rw [he, ← he2]
          exact h2
    · have hie : i = xs.length := by omega
      have hG := HG.out
      rw [hie, goodTo_len] at hG
      have hall : allZ (okz h).de xs d = true ∧ decide (n + sumZ (cnt h).de xs ≤ 200) = true := by
        unfold goodB at hG
        rw [Bool.and_eq_true] at hG
        exact hG
      have HALL := hide hall
      have hC := HCR.out
      rw [hie, List.take_length] at hC
      have HC3 := hide hC
      have hO := HOW.out
      rw [hie] at hO
      have hlen : xs.length = (xs.map Tr.s).length := by rw [List.length_map]
      have htk : (xs.map Tr.s).take xs.length = xs.map Tr.s := by rw [hlen, List.take_length]
      rw [htk] at hO
      have hsz : ∀ s ∈ xs.map Tr.s, s.size ≤ maxLen := by
        intro s hs
        obtain ⟨y, hy, rfl⟩ := List.mem_map.1 hs
        obtain ⟨j, hj⟩ := List.mem_iff_getElem?.1 hy
        exact HSZ.out j y hj
      rw [hlen] at hO
      obtain ⟨oo, cap, hv, hml, hcp, hrow⟩ := strs_of hO hsz
      rw [List.length_map] at hv
      subst hv
      have HML := hide hml
      have HCP := hide hcp
      have HROW := hide hrow
      have hlt2 : ¬ (i : Int) < xs.length := by omega
      clear hG hall hC hO hsz hrow htk hie hlen hml hcp
      go_wp2_with fail
      refine (noTwo_any (xs.map Tr.s) xs.length (List.length_map _) oo cap _ HML.out HCP.out HROW.out).mono ?_
      rintro e w1 ⟨rfl, hw1⟩
      rw [hw1]
      clear hw1 w1
      go_wp2
      go_ret
      have hnd : noTwoB (xs.map Tr.s) = (decsB (okz h).de xs m d && decide (n + sumZ (cnt h).de xs ≤ 200)) := by
        unfold decsB
        rw [HIN.out, HALL.out.1, HALL.out.2, Bool.true_and, Bool.true_and, Bool.and_true]
        unfold noTwoB noDupB
        symm
        apply noDup_noTwo
        intro j hj
        rw [List.length_map] at hj
        rw [name_at (List.getElem?_eq_getElem hj)]
        have h2 := HALL.out.1
        unfold allZ at h2
        rw [List.all_eq_true] at h2
        exact HNM.out _ _ (h2 _ (List.getElem_mem hj))
      exact ⟨_, ret_bool hnd, HC3.out, fun _ => rfl, HKP.out⟩
end Go.Proofs.YtlaeenfeajkcfalGreat
namespace Go.Proofs.YtlaeenfeajkcfalGreat
open Go.ChangeShapes Go.WideShapes Go.ChangeAt Go.RowKit

theorem filled2 {R : Tr → List Value → Prop} {y z : Tr} {a0 a1 a2 a3 a4 a5 b0 b1 b2 b3 b4 b5 : Value} (h0 : R y [a0, a1, a2, a3, a4, a5]) (h1 : R z [b0, b1, b2, b3, b4, b5]) : Filled R 6 #[a0, a1, a2, a3, a4, a5, b0, b1, b2, b3, b4, b5] [y, z] := by
  intro k x hx
  match k, hx with
  | 0, hx =>
    have e : y = x := by simpa using hx
    subst e
    refine ⟨_, rfl, fun j u hu => ?_, h0⟩
    match j, hu with
    | 0, hu | 1, hu | 2, hu | 3, hu | 4, hu | 5, hu => exact hu
    | j + 6, hu => simp at hu
  | 1, hx =>
    have e : z = x := by simpa using hx
    subst e
    refine ⟨_, rfl, fun j u hu => ?_, h1⟩
    match j, hu with
    | 0, hu | 1, hu | 2, hu | 3, hu | 4, hu | 5, hu => exact hu
    | j + 6, hu => simp at hu
  | k + 2, hx => simp at hx
theorem filled3 {R : Tr → List Value → Prop} {y z q : Tr} {a0 a1 a2 a3 a4 a5 b0 b1 b2 b3 b4 b5 d0 d1 d2 d3 d4 d5 : Value} (h0 : R y [a0, a1, a2, a3, a4, a5]) (h1 : R z [b0, b1, b2, b3, b4, b5]) (h2 : R q [d0, d1, d2, d3, d4, d5]) : Filled R 6 #[a0, a1, a2, a3, a4, a5, b0, b1, b2, b3, b4, b5, d0, d1, d2, d3, d4, d5] [y, z, q] := by
  intro k x hx
  match k, hx with
  | 0, hx =>
    have e : y = x := by simpa using hx
    subst e
    refine ⟨_, rfl, fun j u hu => ?_, h0⟩
    match j, hu with
    | 0, hu | 1, hu | 2, hu | 3, hu | 4, hu | 5, hu => exact hu
    | j + 6, hu => simp at hu
  | 1, hx =>
    have e : z = x := by simpa using hx
    subst e
    refine ⟨_, rfl, fun j u hu => ?_, h1⟩
    match j, hu with
    | 0, hu | 1, hu | 2, hu | 3, hu | 4, hu | 5, hu => exact hu
    | j + 6, hu => simp at hu
  | 2, hx =>
    have e : q = x := by simpa using hx
    subst e
    refine ⟨_, rfl, fun j u hu => ?_, h2⟩
    match j, hu with
    | 0, hu | 1, hu | 2, hu | 3, hu | 4, hu | 5, hu => exact hu
    | j + 6, hu => simp at hu
  | k + 3, hx => simp at hx
theorem ta_nil_1 (w : World) : (Instr.typeAssert .nilIface 197 207 true).run Tryz.prog w = .ok (.tuple #[.agg #[.string ⟨#[]⟩], .bool false]) w := by kernel_rfl
theorem ta_1_1 (v : Value) (w : World) : (Instr.typeAssert (.iface 207 v) 197 207 true).run Tryz.prog w = .ok (.tuple #[v, .bool true]) w := by kernel_rfl
theorem ta_2_1 (v : Value) (w : World) : (Instr.typeAssert (.iface 208 v) 197 207 true).run Tryz.prog w = .ok (.tuple #[.agg #[.string ⟨#[]⟩], .bool false]) w := by kernel_rfl
theorem ta_3_1 (v : Value) (w : World) : (Instr.typeAssert (.iface 210 v) 197 207 true).run Tryz.prog w = .ok (.tuple #[.agg #[.string ⟨#[]⟩], .bool false]) w := by kernel_rfl
theorem ta_4_1 (v : Value) (w : World) : (Instr.typeAssert (.iface 212 v) 197 207 true).run Tryz.prog w = .ok (.tuple #[.agg #[.string ⟨#[]⟩], .bool false]) w := by kernel_rfl
theorem ta_5_1 (v : Value) (w : World) : (Instr.typeAssert (.iface 214 v) 197 207 true).run Tryz.prog w = .ok (.tuple #[.agg #[.string ⟨#[]⟩], .bool false]) w := by kernel_rfl
theorem ta_6_1 (v : Value) (w : World) : (Instr.typeAssert (.iface 216 v) 197 207 true).run Tryz.prog w = .ok (.tuple #[.agg #[.string ⟨#[]⟩], .bool false]) w := by kernel_rfl
theorem ta_7_1 (v : Value) (w : World) : (Instr.typeAssert (.iface 218 v) 197 207 true).run Tryz.prog w = .ok (.tuple #[.agg #[.string ⟨#[]⟩], .bool false]) w := by kernel_rfl
theorem ta_8_1 (v : Value) (w : World) : (Instr.typeAssert (.iface 221 v) 197 207 true).run Tryz.prog w = .ok (.tuple #[.agg #[.string ⟨#[]⟩], .bool false]) w := by kernel_rfl
theorem ta_9_1 (v : Value) (w : World) : (Instr.typeAssert (.iface 223 v) 197 207 true).run Tryz.prog w = .ok (.tuple #[.agg #[.string ⟨#[]⟩], .bool false]) w := by kernel_rfl
theorem ta_nil_2 (w : World) : (Instr.typeAssert .nilIface 197 208 true).run Tryz.prog w = .ok (.tuple #[.agg #[.string ⟨#[]⟩], .bool false]) w := by kernel_rfl
theorem ta_2_2 (v : Value) (w : World) : (Instr.typeAssert (.iface 208 v) 197 208 true).run Tryz.prog w = .ok (.tuple #[v, .bool true]) w := by kernel_rfl
theorem ta_3_2 (v : Value) (w : World) : (Instr.typeAssert (.iface 210 v) 197 208 true).run Tryz.prog w = .ok (.tuple #[.agg #[.string ⟨#[]⟩], .bool false]) w := by kernel_rfl
theorem ta_4_2 (v : Value) (w : World) : (Instr.typeAssert (.iface 212 v) 197 208 true).run Tryz.prog w = .ok (.tuple #[.agg #[.string ⟨#[]⟩], .bool false]) w := by kernel_rfl
theorem ta_5_2 (v : Value) (w : World) : (Instr.typeAssert (.iface 214 v) 197 208 true).run Tryz.prog w = .ok (.tuple #[.agg #[.string ⟨#[]⟩], .bool false]) w := by kernel_rfl
theorem ta_6_2 (v : Value) (w : World) : (Instr.typeAssert (.iface 216 v) 197 208 true).run Tryz.prog w = .ok (.tuple #[.agg #[.string ⟨#[]⟩], .bool false]) w := by kernel_rfl
theorem ta_7_2 (v : Value) (w : World) : (Instr.typeAssert (.iface 218 v) 197 208 true).run Tryz.prog w = .ok (.tuple #[.agg #[.string ⟨#[]⟩], .bool false]) w := by kernel_rfl
theorem ta_8_2 (v : Value) (w : World) : (Instr.typeAssert (.iface 221 v) 197 208 true).run Tryz.prog w = .ok (.tuple #[.agg #[.string ⟨#[]⟩], .bool false]) w := by kernel_rfl
theorem ta_9_2 (v : Value) (w : World) : (Instr.typeAssert (.iface 223 v) 197 208 true).run Tryz.prog w = .ok (.tuple #[.agg #[.string ⟨#[]⟩], .bool false]) w := by kernel_rfl
theorem ta_nil_3 (w : World) : (Instr.typeAssert .nilIface 197 210 true).run Tryz.prog w = .ok (.tuple #[.agg #[.int .i64 0], .bool false]) w := by kernel_rfl
theorem ta_3_3 (v : Value) (w : World) : (Instr.typeAssert (.iface 210 v) 197 210 true).run Tryz.prog w = .ok (.tuple #[v, .bool true]) w := by kernel_rfl
theorem ta_4_3 (v : Value) (w : World) : (Instr.typeAssert (.iface 212 v) 197 210 true).run Tryz.prog w = .ok (.tuple #[.agg #[.int .i64 0], .bool false]) w := by kernel_rfl
theorem ta_5_3 (v : Value) (w : World) : (Instr.typeAssert (.iface 214 v) 197 210 true).run Tryz.prog w = .ok (.tuple #[.agg #[.int .i64 0], .bool false]) w := by kernel_rfl
theorem ta_6_3 (v : Value) (w : World) : (Instr.typeAssert (.iface 216 v) 197 210 true).run Tryz.prog w = .ok (.tuple #[.agg #[.int .i64 0], .bool false]) w := by kernel_rfl
theorem ta_7_3 (v : Value) (w : World) : (Instr.typeAssert (.iface 218 v) 197 210 true).run Tryz.prog w = .ok (.tuple #[.agg #[.int .i64 0], .bool false]) w := by kernel_rfl
theorem ta_8_3 (v : Value) (w : World) : (Instr.typeAssert (.iface 221 v) 197 210 true).run Tryz.prog w = .ok (.tuple #[.agg #[.int .i64 0], .bool false]) w := by kernel_rfl
theorem ta_9_3 (v : Value) (w : World) : (Instr.typeAssert (.iface 223 v) 197 210 true).run Tryz.prog w = .ok (.tuple #[.agg #[.int .i64 0], .bool false]) w := by kernel_rfl
theorem ta_nil_4 (w : World) : (Instr.typeAssert .nilIface 197 212 true).run Tryz.prog w = .ok (.tuple #[.agg #[.int .i64 0, .string ⟨#[]⟩, .int .i64 0, .slice none 0 0, .slice none 0 0, .slice none 0 0, .int .i64 0, .string ⟨#[]⟩, .int .i64 0, .slice none 0 0, .slice none 0 0, .slice none 0 0], .bool false]) w := by kernel_rfl
theorem ta_4_4 (v : Value) (w : World) : (Instr.typeAssert (.iface 212 v) 197 212 true).run Tryz.prog w = .ok (.tuple #[v, .bool true]) w := by kernel_rfl
theorem ta_5_4 (v : Value) (w : World) : (Instr.typeAssert (.iface 214 v) 197 212 true).run Tryz.prog w = .ok (.tuple #[.agg #[.int .i64 0, .string ⟨#[]⟩, .int .i64 0, .slice none 0 0, .slice none 0 0, .slice none 0 0, .int .i64 0, .string ⟨#[]⟩, .int .i64 0, .slice none 0 0, .slice none 0 0, .slice none 0 0], .bool false]) w := by kernel_rfl
theorem ta_6_4 (v : Value) (w : World) : (Instr.typeAssert (.iface 216 v) 197 212 true).run Tryz.prog w = .ok (.tuple #[.agg #[.int .i64 0, .string ⟨#[]⟩, .int .i64 0, .slice none 0 0, .slice none 0 0, .slice none 0 0, .int .i64 0, .string ⟨#[]⟩, .int .i64 0, .slice none 0 0, .slice none 0 0, .slice none 0 0], .bool false]) w := by kernel_rfl
theorem ta_7_4 (v : Value) (w : World) : (Instr.typeAssert (.iface 218 v) 197 212 true).run Tryz.prog w = .ok (.tuple #[.agg #[.int .i64 0, .string ⟨#[]⟩, .int .i64 0, .slice none 0 0, .slice none 0 0, .slice none 0 0, .int .i64 0, .string ⟨#[]⟩, .int .i64 0, .slice none 0 0, .slice none 0 0, .slice none 0 0], .bool false]) w := by kernel_rfl
theorem ta_8_4 (v : Value) (w : World) : (Instr.typeAssert (.iface 221 v) 197 212 true).run Tryz.prog w = .ok (.tuple #[.agg #[.int .i64 0, .string ⟨#[]⟩, .int .i64 0, .slice none 0 0, .slice none 0 0, .slice none 0 0, .int .i64 0, .string ⟨#[]⟩, .int .i64 0, .slice none 0 0, .slice none 0 0, .slice none 0 0], .bool false]) w := by kernel_rfl
theorem ta_9_4 (v : Value) (w : World) : (Instr.typeAssert (.iface 223 v) 197 212 true).run Tryz.prog w = .ok (.tuple #[.agg #[.int .i64 0, .string ⟨#[]⟩, .int .i64 0, .slice none 0 0, .slice none 0 0, .slice none 0 0, .int .i64 0, .string ⟨#[]⟩, .int .i64 0, .slice none 0 0, .slice none 0 0, .slice none 0 0], .bool false]) w := by kernel_rfl
theorem ta_nil_5 (w : World) : (Instr.typeAssert .nilIface 197 214 true).run Tryz.prog w = .ok (.tuple #[.agg #[.string ⟨#[]⟩, .int .i64 0, .string ⟨#[]⟩, .int .i64 0, .slice none 0 0, .slice none 0 0, .slice none 0 0], .bool false]) w := by kernel_rfl
theorem ta_5_5 (v : Value) (w : World) : (Instr.typeAssert (.iface 214 v) 197 214 true).run Tryz.prog w = .ok (.tuple #[v, .bool true]) w := by kernel_rfl
theorem ta_6_5 (v : Value) (w : World) : (Instr.typeAssert (.iface 216 v) 197 214 true).run Tryz.prog w = .ok (.tuple #[.agg #[.string ⟨#[]⟩, .int .i64 0, .string ⟨#[]⟩, .int .i64 0, .slice none 0 0, .slice none 0 0, .slice none 0 0], .bool false]) w := by kernel_rfl
theorem ta_7_5 (v : Value) (w : World) : (Instr.typeAssert (.iface 218 v) 197 214 true).run Tryz.prog w = .ok (.tuple #[.agg #[.string ⟨#[]⟩, .int .i64 0, .string ⟨#[]⟩, .int .i64 0, .slice none 0 0, .slice none 0 0, .slice none 0 0], .bool false]) w := by kernel_rfl
theorem ta_8_5 (v : Value) (w : World) : (Instr.typeAssert (.iface 221 v) 197 214 true).run Tryz.prog w = .ok (.tuple #[.agg #[.string ⟨#[]⟩, .int .i64 0, .string ⟨#[]⟩, .int .i64 0, .slice none 0 0, .slice none 0 0, .slice none 0 0], .bool false]) w := by kernel_rfl
theorem ta_9_5 (v : Value) (w : World) : (Instr.typeAssert (.iface 223 v) 197 214 true).run Tryz.prog w = .ok (.tuple #[.agg #[.string ⟨#[]⟩, .int .i64 0, .string ⟨#[]⟩, .int .i64 0, .slice none 0 0, .slice none 0 0, .slice none 0 0], .bool false]) w := by kernel_rfl
theorem ta_nil_6 (w : World) : (Instr.typeAssert .nilIface 197 216 true).run Tryz.prog w = .ok (.tuple #[.agg #[.slice none 0 0, .int .i64 0, .string ⟨#[]⟩, .int .i64 0, .slice none 0 0, .slice none 0 0, .slice none 0 0], .bool false]) w := by kernel_rfl
theorem ta_6_6 (v : Value) (w : World) : (Instr.typeAssert (.iface 216 v) 197 216 true).run Tryz.prog w = .ok (.tuple #[v, .bool true]) w := by kernel_rfl
theorem ta_7_6 (v : Value) (w : World) : (Instr.typeAssert (.iface 218 v) 197 216 true).run Tryz.prog w = .ok (.tuple #[.agg #[.slice none 0 0, .int .i64 0, .string ⟨#[]⟩, .int .i64 0, .slice none 0 0, .slice none 0 0, .slice none 0 0], .bool false]) w := by kernel_rfl
theorem ta_8_6 (v : Value) (w : World) : (Instr.typeAssert (.iface 221 v) 197 216 true).run Tryz.prog w = .ok (.tuple #[.agg #[.slice none 0 0, .int .i64 0, .string ⟨#[]⟩, .int .i64 0, .slice none 0 0, .slice none 0 0, .slice none 0 0], .bool false]) w := by kernel_rfl
theorem ta_9_6 (v : Value) (w : World) : (Instr.typeAssert (.iface 223 v) 197 216 true).run Tryz.prog w = .ok (.tuple #[.agg #[.slice none 0 0, .int .i64 0, .string ⟨#[]⟩, .int .i64 0, .slice none 0 0, .slice none 0 0, .slice none 0 0], .bool false]) w := by kernel_rfl
theorem ta_nil_7 (w : World) : (Instr.typeAssert .nilIface 197 218 true).run Tryz.prog w = .ok (.tuple #[.agg #[.int .i64 0, .string ⟨#[]⟩, .int .i64 0, .slice none 0 0, .slice none 0 0, .slice none 0 0, .slice none 0 0], .bool false]) w := by kernel_rfl
theorem ta_7_7 (v : Value) (w : World) : (Instr.typeAssert (.iface 218 v) 197 218 true).run Tryz.prog w = .ok (.tuple #[v, .bool true]) w := by kernel_rfl
theorem ta_8_7 (v : Value) (w : World) : (Instr.typeAssert (.iface 221 v) 197 218 true).run Tryz.prog w = .ok (.tuple #[.agg #[.int .i64 0, .string ⟨#[]⟩, .int .i64 0, .slice none 0 0, .slice none 0 0, .slice none 0 0, .slice none 0 0], .bool false]) w := by kernel_rfl
theorem ta_9_7 (v : Value) (w : World) : (Instr.typeAssert (.iface 223 v) 197 218 true).run Tryz.prog w = .ok (.tuple #[.agg #[.int .i64 0, .string ⟨#[]⟩, .int .i64 0, .slice none 0 0, .slice none 0 0, .slice none 0 0, .slice none 0 0], .bool false]) w := by kernel_rfl
theorem ta_nil_8 (w : World) : (Instr.typeAssert .nilIface 197 221 true).run Tryz.prog w = .ok (.tuple #[.agg #[.int .i64 0, .string ⟨#[]⟩, .int .i64 0, .slice none 0 0, .slice none 0 0, .slice none 0 0, .int .i64 0, .string ⟨#[]⟩, .int .i64 0, .slice none 0 0, .slice none 0 0, .slice none 0 0, .int .i64 0, .string ⟨#[]⟩, .int .i64 0, .slice none 0 0, .slice none 0 0, .slice none 0 0], .bool false]) w := by kernel_rfl
theorem ta_8_8 (v : Value) (w : World) : (Instr.typeAssert (.iface 221 v) 197 221 true).run Tryz.prog w = .ok (.tuple #[v, .bool true]) w := by kernel_rfl
theorem ta_9_8 (v : Value) (w : World) : (Instr.typeAssert (.iface 223 v) 197 221 true).run Tryz.prog w = .ok (.tuple #[.agg #[.int .i64 0, .string ⟨#[]⟩, .int .i64 0, .slice none 0 0, .slice none 0 0, .slice none 0 0, .int .i64 0, .string ⟨#[]⟩, .int .i64 0, .slice none 0 0, .slice none 0 0, .slice none 0 0, .int .i64 0, .string ⟨#[]⟩, .int .i64 0, .slice none 0 0, .slice none 0 0, .slice none 0 0], .bool false]) w := by kernel_rfl
theorem ta_nil_9 (w : World) : (Instr.typeAssert .nilIface 197 223 true).run Tryz.prog w = .ok (.tuple #[.agg #[.string ⟨#[]⟩, .int .i64 0, .string ⟨#[]⟩, .int .i64 0, .slice none 0 0, .slice none 0 0, .slice none 0 0, .int .i64 0, .string ⟨#[]⟩, .int .i64 0, .slice none 0 0, .slice none 0 0, .slice none 0 0], .bool false]) w := by kernel_rfl
theorem ta_9_9 (v : Value) (w : World) : (Instr.typeAssert (.iface 223 v) 197 223 true).run Tryz.prog w = .ok (.tuple #[v, .bool true]) w := by kernel_rfl

set_option maxHeartbeats 1000000 in
set_option maxRecDepth 100000 in
theorem formOk_nil (cb : Nat) (d : Int) (w : World) : Calls Tryz.prog 135 #[.pointer (some ⟨cb, 0, none⟩), .nilIface, .int .i64 d] w fun e w' => e = .returned (.bool false) ∧ w' = w := by
  have ta1 := ta_nil_1
  have ta2 := ta_nil_2
  have ta3 := ta_nil_3
  have ta4 := ta_nil_4
  have ta5 := ta_nil_5
  have ta6 := ta_nil_6
  have ta7 := ta_nil_7
  have ta8 := ta_nil_8
  have ta9 := ta_nil_9
  go_enter Tryz.func135, Tryz.ntmps135
  go_wp2
  go_ret
  exact ⟨rfl, rfl⟩

set_option maxHeartbeats 1000000 in
set_option maxRecDepth 100000 in
theorem formOk_1 (cb : Nat) (s : ByteArray) (hs : s.size ≤ maxLen) (d : Int) (w : World) :
    Calls Tryz.prog 135 #[.pointer (some ⟨cb, 0, none⟩), .iface 207 (.agg #[.string s]), .int .i64 d] w fun e w' => e = .returned (.bool (nmB s)) ∧ Below w.heap.size w w' := by
  have HB0 : Hid (Below w.heap.size w (w.alloc (.cells #[.string s] 207))) := (Below.refl _ w).alloc (Nat.le_refl _) _
  have HX0 : Hid ((w.alloc (.cells #[.string s] 207)).heap[w.heap.size]? = some (.cells #[.string s] 207 (0, 0))) := heap_alloc_new w _
  have ta1 := ta_1_1
  go_enter Tryz.func135, Tryz.ntmps135
  go_wp2_with fail
  refine (implName_any _ _ hs).mono ?_
  rintro e w1 ⟨rfl, hb⟩
  have HB1 := hide (HB0.out.trans (hb.mono HB0.out.size))
  clear hb HX0
  go_wp2
  go_ret
  exact ⟨rfl, HB1.out⟩

set_option maxHeartbeats 1000000 in
set_option maxRecDepth 100000 in
theorem formOk_2 (cb : Nat) (s : ByteArray) (hs : s.size ≤ maxLen) (d : Int) (w : World) :
    Calls Tryz.prog 135 #[.pointer (some ⟨cb, 0, none⟩), .iface 208 (.agg #[.string s]), .int .i64 d] w fun e w' => e = .returned (.bool (grB s)) ∧ Below w.heap.size w w' := by
  have HB0 : Hid (Below w.heap.size w (w.alloc (.cells #[.string s] 208))) := (Below.refl _ w).alloc (Nat.le_refl _) _
  have HX0 : Hid ((w.alloc (.cells #[.string s] 208)).heap[w.heap.size]? = some (.cells #[.string s] 208 (0, 0))) := heap_alloc_new w _
  have ta1 := ta_2_1
  have ta2 := ta_2_2
  go_enter Tryz.func135, Tryz.ntmps135
  go_wp2_with fail
  refine (implGreat_any _ _ hs).mono ?_
  rintro e w1 ⟨rfl, hb⟩
  have HB1 := hide (HB0.out.trans (hb.mono HB0.out.size))
  clear hb HX0
  go_wp2
  go_ret
  exact ⟨rfl, HB1.out⟩

set_option maxHeartbeats 1000000 in
set_option maxRecDepth 100000 in
theorem formOk_3 (cb : Nat) (v : Int) (d : Int) (w : World) :
    Calls Tryz.prog 135 #[.pointer (some ⟨cb, 0, none⟩), .iface 210 (.agg #[.int .i64 v]), .int .i64 d] w fun e w' => e = .returned (.bool (inB v 0 999999)) ∧ Below w.heap.size w w' := by
  have HB0 : Hid (Below w.heap.size w (w.alloc (.cells #[.int .i64 v] 210))) := (Below.refl _ w).alloc (Nat.le_refl _) _
  have HX0 : Hid ((w.alloc (.cells #[.int .i64 v] 210)).heap[w.heap.size]? = some (.cells #[.int .i64 v] 210 (0, 0))) := heap_alloc_new w _
  have ta1 := ta_3_1
  have ta2 := ta_3_2
  have ta3 := ta_3_3
  by_cases h1 : 0 ≤ v
  · by_cases h2 : v ≤ 999999
    · go_enter Tryz.func135, Tryz.ntmps135
      go_wp2
      go_ret
      exact ⟨ret_bool (by unfold inB; rw [decide_eq_true h1, decide_eq_true h2]; rfl), HB0.out⟩
    · go_enter Tryz.func135, Tryz.ntmps135
      go_wp2
      go_ret
      exact ⟨ret_bool (by unfold inB; rw [decide_eq_true h1, decide_eq_false (show ¬ v ≤ 999999 by omega)]; rfl), HB0.out⟩
  · go_enter Tryz.func135, Tryz.ntmps135
    go_wp2
    go_ret
    exact ⟨ret_bool (by unfold inB; rw [decide_eq_false (show ¬ 0 ≤ v by omega)]; rfl), HB0.out⟩

end Go.Proofs.YtlaeenfeajkcfalGreat
namespace Go.Proofs.YtlaeenfeajkcfalGreat
open Go.ChangeShapes Go.WideShapes Go.ChangeAt Go.RowKit

set_option maxHeartbeats 1000000 in
set_option maxRecDepth 100000 in
theorem formOk_4 {h : Nat} (hP : ChPs h) (y z : Tr) (p01 p02 p03 : Option Addr) (g01 g02 g03 : Nat) (p11 p12 p13 : Option Addr) (g11 g12 g13 : Nat) (cb n : Nat) (d : Int) (w : World) (r0 : (reads (NeK cb) w h).ex y [.int .i64 y.k, .string y.s, .int .i64 y.n, .slice p01 y.l.length g01, .slice p02 y.ds.length g02, .slice p03 y.al.length g03]) (r1 : (reads (NeK cb) w h).ex z [.int .i64 z.k, .string z.s, .int .i64 z.n, .slice p11 z.l.length g11, .slice p12 z.ds.length g12, .slice p13 z.al.length g13]) (hc : Ctr w cb n) (hn : n ≤ 200) (h0 : -2 ≤ d) (h1 : d ≤ 12) :
    Calls Tryz.prog 135 #[.pointer (some ⟨cb, 0, none⟩), .iface 212 (.agg #[.int .i64 y.k, .string y.s, .int .i64 y.n, .slice p01 y.l.length g01, .slice p02 y.ds.length g02, .slice p03 y.al.length g03, .int .i64 z.k, .string z.s, .int .i64 z.n, .slice p11 z.l.length g11, .slice p12 z.ds.length g12, .slice p13 z.al.length g13]), .int .i64 d] w (Cres cb n w (goodB (okz h).ex (cnt h).ex [y, z] (d + 1) n) (sumZ (cnt h).ex [y, z])) := by
  have HP := hide hP
  have HC := hide hc
  have hcb : cb < w.heap.size := heap_lt hc
  have R0 := hide r0
  have R1 := hide r1
  clear hP hc r0 r1
  have HB0 : Hid (Below w.heap.size w (w.alloc (.cells #[.int .i64 y.k, .string y.s, .int .i64 y.n, .slice p01 y.l.length g01, .slice p02 y.ds.length g02, .slice p03 y.al.length g03, .int .i64 z.k, .string z.s, .int .i64 z.n, .slice p11 z.l.length g11, .slice p12 z.ds.length g12, .slice p13 z.al.length g13] 212))) := (Below.refl _ w).alloc (Nat.le_refl _) _
  have HX0 : Hid ((w.alloc (.cells #[.int .i64 y.k, .string y.s, .int .i64 y.n, .slice p01 y.l.length g01, .slice p02 y.ds.length g02, .slice p03 y.al.length g03, .int .i64 z.k, .string z.s, .int .i64 z.n, .slice p11 z.l.length g11, .slice p12 z.ds.length g12, .slice p13 z.al.length g13] 212)).heap[w.heap.size]? = some (.cells #[.int .i64 y.k, .string y.s, .int .i64 y.n, .slice p01 y.l.length g01, .slice p02 y.ds.length g02, .slice p03 y.al.length g03, .int .i64 z.k, .string z.s, .int .i64 z.n, .slice p11 z.l.length g11, .slice p12 z.ds.length g12, .slice p13 z.al.length g13] 212 (0, 0))) := heap_alloc_new w _
  have ta1 := ta_4_1
  have ta2 := ta_4_2
  have ta3 := ta_4_3
  have ta4 := ta_4_4
  have HA1 : Hid (Below (w.alloc (.cells #[.int .i64 y.k, .string y.s, .int .i64 y.n, .slice p01 y.l.length g01, .slice p02 y.ds.length g02, .slice p03 y.al.length g03, .int .i64 z.k, .string z.s, .int .i64 z.n, .slice p11 z.l.length g11, .slice p12 z.ds.length g12, .slice p13 z.al.length g13] 212)).heap.size (w.alloc (.cells #[.int .i64 y.k, .string y.s, .int .i64 y.n, .slice p01 y.l.length g01, .slice p02 y.ds.length g02, .slice p03 y.al.length g03, .int .i64 z.k, .string z.s, .int .i64 z.n, .slice p11 z.l.length g11, .slice p12 z.ds.length g12, .slice p13 z.al.length g13] 212)) ((w.alloc (.cells #[.int .i64 y.k, .string y.s, .int .i64 y.n, .slice p01 y.l.length g01, .slice p02 y.ds.length g02, .slice p03 y.al.length g03, .int .i64 z.k, .string z.s, .int .i64 z.n, .slice p11 z.l.length g11, .slice p12 z.ds.length g12, .slice p13 z.al.length g13] 212)).alloc (.cells #[.int .i64 y.k, .string y.s, .int .i64 y.n, .slice p01 y.l.length g01, .slice p02 y.ds.length g02, .slice p03 y.al.length g03, .int .i64 z.k, .string z.s, .int .i64 z.n, .slice p11 z.l.length g11, .slice p12 z.ds.length g12, .slice p13 z.al.length g13] 75))) := (Below.refl _ _).alloc (Nat.le_refl _) _
  have HB2 := hide (HB0.out.trans (HA1.out.mono HB0.out.size))
  have HROW : Hid (RowOf (NeK cb) ((w.alloc (.cells #[.int .i64 y.k, .string y.s, .int .i64 y.n, .slice p01 y.l.length g01, .slice p02 y.ds.length g02, .slice p03 y.al.length g03, .int .i64 z.k, .string z.s, .int .i64 z.n, .slice p11 z.l.length g11, .slice p12 z.ds.length g12, .slice p13 z.al.length g13] 212)).alloc (.cells #[.int .i64 y.k, .string y.s, .int .i64 y.n, .slice p01 y.l.length g01, .slice p02 y.ds.length g02, .slice p03 y.al.length g03, .int .i64 z.k, .string z.s, .int .i64 z.n, .slice p11 z.l.length g11, .slice p12 z.ds.length g12, .slice p13 z.al.length g13] 75)) (reads (NeK cb) ((w.alloc (.cells #[.int .i64 y.k, .string y.s, .int .i64 y.n, .slice p01 y.l.length g01, .slice p02 y.ds.length g02, .slice p03 y.al.length g03, .int .i64 z.k, .string z.s, .int .i64 z.n, .slice p11 z.l.length g11, .slice p12 z.ds.length g12, .slice p13 z.al.length g13] 212)).alloc (.cells #[.int .i64 y.k, .string y.s, .int .i64 y.n, .slice p01 y.l.length g01, .slice p02 y.ds.length g02, .slice p03 y.al.length g03, .int .i64 z.k, .string z.s, .int .i64 z.n, .slice p11 z.l.length g11, .slice p12 z.ds.length g12, .slice p13 z.al.length g13] 75)) h).ex 6 (some ⟨w.heap.size + 1, 0, none⟩) [y, z]) :=
    (filled2 ((reads_later HB2.out h).1 _ _ R0.out) ((reads_later HB2.out h).1 _ _ R1.out)).row (heap_alloc2_new w _ _) (by show w.heap.size + 1 ≠ cb; have := HB0.out.size; omega)
  go_enter Tryz.func135, Tryz.ntmps135
  go_wp2_with fail
  refine (HP.out [y, z] _ 2 _ cb n d HROW.out (show 2 ≤ maxLen by decide) (HC.out.later HB2.out) hn (by omega) (by omega)).mono ?_
  rintro e w9 ⟨n9, rfl, hc9, hn9, hk9⟩
  have HC9 := hide hc9
  have HN9 := hide hn9
  have HK9 := hide ((Kp.of (cb := cb) HB2.out).on hk9)
  clear hc9 hn9 hk9
  go_wp2
  go_ret
  exact ⟨n9, rfl, HC9.out, HN9.out, HK9.out⟩

set_option maxHeartbeats 1000000 in
set_option maxRecDepth 100000 in
theorem formOk_8 {h : Nat} (hP : ChPs h) (y z q : Tr) (p01 p02 p03 : Option Addr) (g01 g02 g03 : Nat) (p11 p12 p13 : Option Addr) (g11 g12 g13 : Nat) (p21 p22 p23 : Option Addr) (g21 g22 g23 : Nat) (cb n : Nat) (d : Int) (w : World) (r0 : (reads (NeK cb) w h).ex y [.int .i64 y.k, .string y.s, .int .i64 y.n, .slice p01 y.l.length g01, .slice p02 y.ds.length g02, .slice p03 y.al.length g03]) (r1 : (reads (NeK cb) w h).ex z [.int .i64 z.k, .string z.s, .int .i64 z.n, .slice p11 z.l.length g11, .slice p12 z.ds.length g12, .slice p13 z.al.length g13]) (r2 : (reads (NeK cb) w h).ex q [.int .i64 q.k, .string q.s, .int .i64 q.n, .slice p21 q.l.length g21, .slice p22 q.ds.length g22, .slice p23 q.al.length g23]) (hc : Ctr w cb n) (hn : n ≤ 200) (h0 : -2 ≤ d) (h1 : d ≤ 12) :
    Calls Tryz.prog 135 #[.pointer (some ⟨cb, 0, none⟩), .iface 221 (.agg #[.int .i64 y.k, .string y.s, .int .i64 y.n, .slice p01 y.l.length g01, .slice p02 y.ds.length g02, .slice p03 y.al.length g03, .int .i64 z.k, .string z.s, .int .i64 z.n, .slice p11 z.l.length g11, .slice p12 z.ds.length g12, .slice p13 z.al.length g13, .int .i64 q.k, .string q.s, .int .i64 q.n, .slice p21 q.l.length g21, .slice p22 q.ds.length g22, .slice p23 q.al.length g23]), .int .i64 d] w (Cres cb n w (goodB (okz h).ex (cnt h).ex [y, z, q] (d + 1) n) (sumZ (cnt h).ex [y, z, q])) := by
  have HP := hide hP
  have HC := hide hc
  have hcb : cb < w.heap.size := heap_lt hc
  have R0 := hide r0
  have R1 := hide r1
  have R2 := hide r2
  clear hP hc r0 r1 r2
  have HB0 : Hid (Below w.heap.size w (w.alloc (.cells #[.int .i64 y.k, .string y.s, .int .i64 y.n, .slice p01 y.l.length g01, .slice p02 y.ds.length g02, .slice p03 y.al.length g03, .int .i64 z.k, .string z.s, .int .i64 z.n, .slice p11 z.l.length g11, .slice p12 z.ds.length g12, .slice p13 z.al.length g13, .int .i64 q.k, .string q.s, .int .i64 q.n, .slice p21 q.l.length g21, .slice p22 q.ds.length g22, .slice p23 q.al.length g23] 221))) := (Below.refl _ w).alloc (Nat.le_refl _) _
  have HX0 : Hid ((w.alloc (.cells #[.int .i64 y.k, .string y.s, .int .i64 y.n, .slice p01 y.l.length g01, .slice p02 y.ds.length g02, .slice p03 y.al.length g03, .int .i64 z.k, .string z.s, .int .i64 z.n, .slice p11 z.l.length g11, .slice p12 z.ds.length g12, .slice p13 z.al.length g13, .int .i64 q.k, .string q.s, .int .i64 q.n, .slice p21 q.l.length g21, .slice p22 q.ds.length g22, .slice p23 q.al.length g23] 221)).heap[w.heap.size]? = some (.cells #[.int .i64 y.k, .string y.s, .int .i64 y.n, .slice p01 y.l.length g01, .slice p02 y.ds.length g02, .slice p03 y.al.length g03, .int .i64 z.k, .string z.s, .int .i64 z.n, .slice p11 z.l.length g11, .slice p12 z.ds.length g12, .slice p13 z.al.length g13, .int .i64 q.k, .string q.s, .int .i64 q.n, .slice p21 q.l.length g21, .slice p22 q.ds.length g22, .slice p23 q.al.length g23] 221 (0, 0))) := heap_alloc_new w _
  have ta1 := ta_8_1
  have ta2 := ta_8_2
  have ta3 := ta_8_3
  have ta4 := ta_8_4
  have ta5 := ta_8_5
  have ta6 := ta_8_6
  have ta7 := ta_8_7
  have ta8 := ta_8_8
  have HA1 : Hid (Below (w.alloc (.cells #[.int .i64 y.k, .string y.s, .int .i64 y.n, .slice p01 y.l.length g01, .slice p02 y.ds.length g02, .slice p03 y.al.length g03, .int .i64 z.k, .string z.s, .int .i64 z.n, .slice p11 z.l.length g11, .slice p12 z.ds.length g12, .slice p13 z.al.length g13, .int .i64 q.k, .string q.s, .int .i64 q.n, .slice p21 q.l.length g21, .slice p22 q.ds.length g22, .slice p23 q.al.length g23] 221)).heap.size (w.alloc (.cells #[.int .i64 y.k, .string y.s, .int .i64 y.n, .slice p01 y.l.length g01, .slice p02 y.ds.length g02, .slice p03 y.al.length g03, .int .i64 z.k, .string z.s, .int .i64 z.n, .slice p11 z.l.length g11, .slice p12 z.ds.length g12, .slice p13 z.al.length g13, .int .i64 q.k, .string q.s, .int .i64 q.n, .slice p21 q.l.length g21, .slice p22 q.ds.length g22, .slice p23 q.al.length g23] 221)) ((w.alloc (.cells #[.int .i64 y.k, .string y.s, .int .i64 y.n, .slice p01 y.l.length g01, .slice p02 y.ds.length g02, .slice p03 y.al.length g03, .int .i64 z.k, .string z.s, .int .i64 z.n, .slice p11 z.l.length g11, .slice p12 z.ds.length g12, .slice p13 z.al.length g13, .int .i64 q.k, .string q.s, .int .i64 q.n, .slice p21 q.l.length g21, .slice p22 q.ds.length g22, .slice p23 q.al.length g23] 221)).alloc (.cells #[.int .i64 y.k, .string y.s, .int .i64 y.n, .slice p01 y.l.length g01, .slice p02 y.ds.length g02, .slice p03 y.al.length g03, .int .i64 z.k, .string z.s, .int .i64 z.n, .slice p11 z.l.length g11, .slice p12 z.ds.length g12, .slice p13 z.al.length g13, .int .i64 q.k, .string q.s, .int .i64 q.n, .slice p21 q.l.length g21, .slice p22 q.ds.length g22, .slice p23 q.al.length g23] 75))) := (Below.refl _ _).alloc (Nat.le_refl _) _
  have HB2 := hide (HB0.out.trans (HA1.out.mono HB0.out.size))
  have HROW : Hid (RowOf (NeK cb) ((w.alloc (.cells #[.int .i64 y.k, .string y.s, .int .i64 y.n, .slice p01 y.l.length g01, .slice p02 y.ds.length g02, .slice p03 y.al.length g03, .int .i64 z.k, .string z.s, .int .i64 z.n, .slice p11 z.l.length g11, .slice p12 z.ds.length g12, .slice p13 z.al.length g13, .int .i64 q.k, .string q.s, .int .i64 q.n, .slice p21 q.l.length g21, .slice p22 q.ds.length g22, .slice p23 q.al.length g23] 221)).alloc (.cells #[.int .i64 y.k, .string y.s, .int .i64 y.n, .slice p01 y.l.length g01, .slice p02 y.ds.length g02, .slice p03 y.al.length g03, .int .i64 z.k, .string z.s, .int .i64 z.n, .slice p11 z.l.length g11, .slice p12 z.ds.length g12, .slice p13 z.al.length g13, .int .i64 q.k, .string q.s, .int .i64 q.n, .slice p21 q.l.length g21, .slice p22 q.ds.length g22, .slice p23 q.al.length g23] 75)) (reads (NeK cb) ((w.alloc (.cells #[.int .i64 y.k, .string y.s, .int .i64 y.n, .slice p01 y.l.length g01, .slice p02 y.ds.length g02, .slice p03 y.al.length g03, .int .i64 z.k, .string z.s, .int .i64 z.n, .slice p11 z.l.length g11, .slice p12 z.ds.length g12, .slice p13 z.al.length g13, .int .i64 q.k, .string q.s, .int .i64 q.n, .slice p21 q.l.length g21, .slice p22 q.ds.length g22, .slice p23 q.al.length g23] 221)).alloc (.cells #[.int .i64 y.k, .string y.s, .int .i64 y.n, .slice p01 y.l.length g01, .slice p02 y.ds.length g02, .slice p03 y.al.length g03, .int .i64 z.k, .string z.s, .int .i64 z.n, .slice p11 z.l.length g11, .slice p12 z.ds.length g12, .slice p13 z.al.length g13, .int .i64 q.k, .string q.s, .int .i64 q.n, .slice p21 q.l.length g21, .slice p22 q.ds.length g22, .slice p23 q.al.length g23] 75)) h).ex 6 (some ⟨w.heap.size + 1, 0, none⟩) [y, z, q]) :=
    (filled3 ((reads_later HB2.out h).1 _ _ R0.out) ((reads_later HB2.out h).1 _ _ R1.out) ((reads_later HB2.out h).1 _ _ R2.out)).row (heap_alloc2_new w _ _) (by show w.heap.size + 1 ≠ cb; have := HB0.out.size; omega)
  go_enter Tryz.func135, Tryz.ntmps135
  go_wp2_with fail
  refine (HP.out [y, z, q] _ 3 _ cb n d HROW.out (show 3 ≤ maxLen by decide) (HC.out.later HB2.out) hn (by omega) (by omega)).mono ?_
  rintro e w9 ⟨n9, rfl, hc9, hn9, hk9⟩
  have HC9 := hide hc9
  have HN9 := hide hn9
  have HK9 := hide ((Kp.of (cb := cb) HB2.out).on hk9)
  clear hc9 hn9 hk9
  go_wp2
  go_ret
  exact ⟨n9, rfl, HC9.out, HN9.out, HK9.out⟩

set_option maxHeartbeats 1000000 in
set_option maxRecDepth 100000 in
theorem formOk_5 {h : Nat} (hP : ChPs h) (s : ByteArray) (hs : s.size ≤ maxLen) (y : Tr) (p01 p02 p03 : Option Addr) (g01 g02 g03 : Nat) (cb n : Nat) (d : Int) (w : World) (r0 : (reads (NeK cb) w h).ex y [.int .i64 y.k, .string y.s, .int .i64 y.n, .slice p01 y.l.length g01, .slice p02 y.ds.length g02, .slice p03 y.al.length g03]) (hc : Ctr w cb n) (hn : n ≤ 200) (h0 : -2 ≤ d) (h1 : d ≤ 12) :
    Calls Tryz.prog 135 #[.pointer (some ⟨cb, 0, none⟩), .iface 214 (.agg #[.string s, .int .i64 y.k, .string y.s, .int .i64 y.n, .slice p01 y.l.length g01, .slice p02 y.ds.length g02, .slice p03 y.al.length g03]), .int .i64 d] w (Cres cb n w (parB s && goodB (okz h).ex (cnt h).ex [y] (d + 1) n) (sumZ (cnt h).ex [y])) := by
  have HP := hide hP
  have HC := hide hc
  have hcb : cb < w.heap.size := heap_lt hc
  have R0 := hide r0
  clear hP hc r0
  have HB0 : Hid (Below w.heap.size w (w.alloc (.cells #[.string s, .int .i64 y.k, .string y.s, .int .i64 y.n, .slice p01 y.l.length g01, .slice p02 y.ds.length g02, .slice p03 y.al.length g03] 214))) := (Below.refl _ w).alloc (Nat.le_refl _) _
  have HX0 : Hid ((w.alloc (.cells #[.string s, .int .i64 y.k, .string y.s, .int .i64 y.n, .slice p01 y.l.length g01, .slice p02 y.ds.length g02, .slice p03 y.al.length g03] 214)).heap[w.heap.size]? = some (.cells #[.string s, .int .i64 y.k, .string y.s, .int .i64 y.n, .slice p01 y.l.length g01, .slice p02 y.ds.length g02, .slice p03 y.al.length g03] 214 (0, 0))) := heap_alloc_new w _
  have ta1 := ta_5_1
  have ta2 := ta_5_2
  have ta3 := ta_5_3
  have ta4 := ta_5_4
  have ta5 := ta_5_5
  cases ht : parB s
  · have HT := hide ht
    clear ht
    go_enter Tryz.func135, Tryz.ntmps135
    go_wp2_with fail
    refine (parOk_any s _ hs).mono ?_
    rintro e w1 ⟨rfl, hb⟩
    rw [HT.out]
    have HB1 := hide (HB0.out.trans (hb.mono HB0.out.size))
    have HX1 := hide ((hb.block w.heap.size (heap_lt HX0.out)).trans HX0.out)
    clear hb
    go_wp2
    go_ret
    exact ⟨n, ret_bool (by simp), HC.out.later HB1.out, (fun hx => by simp at hx), Kp.of HB1.out⟩
  · have HT := hide ht
    clear ht
    go_enter Tryz.func135, Tryz.ntmps135
    go_wp2_with fail
    refine (parOk_any s _ hs).mono ?_
    rintro e w1 ⟨rfl, hb⟩
    rw [HT.out]
    have HB1 := hide (HB0.out.trans (hb.mono HB0.out.size))
    have HX1 := hide ((hb.block w.heap.size (heap_lt HX0.out)).trans HX0.out)
    clear hb
    have x1 := cell_of HX1.out 1
    have x2 := cell_of HX1.out 2
    have x3 := cell_of HX1.out 3
    have x4 := cell_of HX1.out 4
    have x5 := cell_of HX1.out 5
    have x6 := cell_of HX1.out 6
    simp only [List.getElem?_toArray, List.getElem?_cons_succ, List.getElem?_cons_zero] at x1 x2 x3 x4 x5 x6
    have HA1 : Hid (Below w1.heap.size w1 (w1.alloc (.cells #[.int .i64 y.k, .string y.s, .int .i64 y.n, .slice p01 y.l.length g01, .slice p02 y.ds.length g02, .slice p03 y.al.length g03] 75))) := (Below.refl _ _).alloc (Nat.le_refl _) _
    have HB2 := hide (HB1.out.trans (HA1.out.mono HB1.out.size))
    have HROW : Hid (RowOf (NeK cb) (w1.alloc (.cells #[.int .i64 y.k, .string y.s, .int .i64 y.n, .slice p01 y.l.length g01, .slice p02 y.ds.length g02, .slice p03 y.al.length g03] 75)) (reads (NeK cb) (w1.alloc (.cells #[.int .i64 y.k, .string y.s, .int .i64 y.n, .slice p01 y.l.length g01, .slice p02 y.ds.length g02, .slice p03 y.al.length g03] 75)) h).ex 6 (some ⟨w1.heap.size, 0, none⟩) [y]) :=
      (filled1 ((reads_later HB2.out h).1 _ _ R0.out)).row (heap_alloc_new _ _) (by show w1.heap.size ≠ cb; have := HB1.out.size; omega)
    go_wp2_with fail
    refine (HP.out [y] _ 1 _ cb n d HROW.out (show 1 ≤ maxLen by decide) (HC.out.later HB2.out) hn (by omega) (by omega)).mono ?_
    rintro e w9 ⟨n9, rfl, hc9, hn9, hk9⟩
    have HC9 := hide hc9
    have HN9 := hide hn9
    have HK9 := hide ((Kp.of (cb := cb) HB2.out).on hk9)
    clear hc9 hn9 hk9
    go_wp2
    go_ret
    exact ⟨n9, ret_bool (by simp), HC9.out, (fun hx => HN9.out (by simpa using hx)), HK9.out⟩

set_option maxHeartbeats 1000000 in
set_option maxRecDepth 100000 in
theorem formOk_9 {h : Nat} (hP : ChPs h) (s : ByteArray) (y z : Tr) (p01 p02 p03 : Option Addr) (g01 g02 g03 : Nat) (p11 p12 p13 : Option Addr) (g11 g12 g13 : Nat) (cb n : Nat) (d : Int) (w : World) (r0 : (reads (NeK cb) w h).ex y [.int .i64 y.k, .string y.s, .int .i64 y.n, .slice p01 y.l.length g01, .slice p02 y.ds.length g02, .slice p03 y.al.length g03]) (r1 : (reads (NeK cb) w h).ex z [.int .i64 z.k, .string z.s, .int .i64 z.n, .slice p11 z.l.length g11, .slice p12 z.ds.length g12, .slice p13 z.al.length g13]) (hc : Ctr w cb n) (hn : n ≤ 200) (h0 : -2 ≤ d) (h1 : d ≤ 12) :
    Calls Tryz.prog 135 #[.pointer (some ⟨cb, 0, none⟩), .iface 223 (.agg #[.string s, .int .i64 y.k, .string y.s, .int .i64 y.n, .slice p01 y.l.length g01, .slice p02 y.ds.length g02, .slice p03 y.al.length g03, .int .i64 z.k, .string z.s, .int .i64 z.n, .slice p11 z.l.length g11, .slice p12 z.ds.length g12, .slice p13 z.al.length g13]), .int .i64 d] w (Cres cb n w (opB s && goodB (okz h).ex (cnt h).ex [y, z] (d + 1) n) (sumZ (cnt h).ex [y, z])) := by
  have HP := hide hP
  have HC := hide hc
  have hcb : cb < w.heap.size := heap_lt hc
  have R0 := hide r0
  have R1 := hide r1
  clear hP hc r0 r1
  have HB0 : Hid (Below w.heap.size w (w.alloc (.cells #[.string s, .int .i64 y.k, .string y.s, .int .i64 y.n, .slice p01 y.l.length g01, .slice p02 y.ds.length g02, .slice p03 y.al.length g03, .int .i64 z.k, .string z.s, .int .i64 z.n, .slice p11 z.l.length g11, .slice p12 z.ds.length g12, .slice p13 z.al.length g13] 223))) := (Below.refl _ w).alloc (Nat.le_refl _) _
  have HX0 : Hid ((w.alloc (.cells #[.string s, .int .i64 y.k, .string y.s, .int .i64 y.n, .slice p01 y.l.length g01, .slice p02 y.ds.length g02, .slice p03 y.al.length g03, .int .i64 z.k, .string z.s, .int .i64 z.n, .slice p11 z.l.length g11, .slice p12 z.ds.length g12, .slice p13 z.al.length g13] 223)).heap[w.heap.size]? = some (.cells #[.string s, .int .i64 y.k, .string y.s, .int .i64 y.n, .slice p01 y.l.length g01, .slice p02 y.ds.length g02, .slice p03 y.al.length g03, .int .i64 z.k, .string z.s, .int .i64 z.n, .slice p11 z.l.length g11, .slice p12 z.ds.length g12, .slice p13 z.al.length g13] 223 (0, 0))) := heap_alloc_new w _
  have ta1 := ta_9_1
  have ta2 := ta_9_2
  have ta3 := ta_9_3
  have ta4 := ta_9_4
  have ta5 := ta_9_5
  have ta6 := ta_9_6
  have ta7 := ta_9_7
  have ta8 := ta_9_8
  have ta9 := ta_9_9
  cases ht : opB s
  · have HT := hide ht
    clear ht
    go_enter Tryz.func135, Tryz.ntmps135
    go_wp2_with fail
    refine (isOp_any s _).mono ?_
    rintro e w1 ⟨rfl, hb⟩
    rw [HT.out]
    have HB1 := HB0
    rw [← hb] at HB1
    have HX1 := HX0
    rw [← hb] at HX1
    clear hb
    go_wp2
    go_ret
    exact ⟨n, ret_bool (by simp), HC.out.later HB1.out, (fun hx => by simp at hx), Kp.of HB1.out⟩
  · have HT := hide ht
    clear ht
    go_enter Tryz.func135, Tryz.ntmps135
    go_wp2_with fail
    refine (isOp_any s _).mono ?_
    rintro e w1 ⟨rfl, hb⟩
    rw [HT.out]
    have HB1 := HB0
    rw [← hb] at HB1
    have HX1 := HX0
    rw [← hb] at HX1
    clear hb
    have x1 := cell_of HX1.out 1
    have x2 := cell_of HX1.out 2
    have x3 := cell_of HX1.out 3
    have x4 := cell_of HX1.out 4
    have x5 := cell_of HX1.out 5
    have x6 := cell_of HX1.out 6
    have x7 := cell_of HX1.out 7
    have x8 := cell_of HX1.out 8
    have x9 := cell_of HX1.out 9
    have x10 := cell_of HX1.out 10
    have x11 := cell_of HX1.out 11
    have x12 := cell_of HX1.out 12
    simp only [List.getElem?_toArray, List.getElem?_cons_succ, List.getElem?_cons_zero] at x1 x2 x3 x4 x5 x6 x7 x8 x9 x10 x11 x12
    have HA1 : Hid (Below w1.heap.size w1 (w1.alloc (.cells #[.int .i64 y.k, .string y.s, .int .i64 y.n, .slice p01 y.l.length g01, .slice p02 y.ds.length g02, .slice p03 y.al.length g03, .int .i64 z.k, .string z.s, .int .i64 z.n, .slice p11 z.l.length g11, .slice p12 z.ds.length g12, .slice p13 z.al.length g13] 75))) := (Below.refl _ _).alloc (Nat.le_refl _) _
    have HB2 := hide (HB1.out.trans (HA1.out.mono HB1.out.size))
    have HROW : Hid (RowOf (NeK cb) (w1.alloc (.cells #[.int .i64 y.k, .string y.s, .int .i64 y.n, .slice p01 y.l.length g01, .slice p02 y.ds.length g02, .slice p03 y.al.length g03, .int .i64 z.k, .string z.s, .int .i64 z.n, .slice p11 z.l.length g11, .slice p12 z.ds.length g12, .slice p13 z.al.length g13] 75)) (reads (NeK cb) (w1.alloc (.cells #[.int .i64 y.k, .string y.s, .int .i64 y.n, .slice p01 y.l.length g01, .slice p02 y.ds.length g02, .slice p03 y.al.length g03, .int .i64 z.k, .string z.s, .int .i64 z.n, .slice p11 z.l.length g11, .slice p12 z.ds.length g12, .slice p13 z.al.length g13] 75)) h).ex 6 (some ⟨w1.heap.size, 0, none⟩) [y, z]) :=
      (filled2 ((reads_later HB2.out h).1 _ _ R0.out) ((reads_later HB2.out h).1 _ _ R1.out)).row (heap_alloc_new _ _) (by show w1.heap.size ≠ cb; have := HB1.out.size; omega)
    go_wp2_with fail
    refine (HP.out [y, z] _ 2 _ cb n d HROW.out (show 2 ≤ maxLen by decide) (HC.out.later HB2.out) hn (by omega) (by omega)).mono ?_
    rintro e w9 ⟨n9, rfl, hc9, hn9, hk9⟩
    have HC9 := hide hc9
    have HN9 := hide hn9
    have HK9 := hide ((Kp.of (cb := cb) HB2.out).on hk9)
    clear hc9 hn9 hk9
    go_wp2
    go_ret
    exact ⟨n9, ret_bool (by simp), HC9.out, (fun hx => HN9.out (by simpa using hx)), HK9.out⟩

set_option maxHeartbeats 1000000 in
set_option maxRecDepth 100000 in
theorem formOk_6 {h : Nat} (hP : ChPs h) (hD : ChDs h) (ds : List Tr) (o2 : Option Addr) (c2 : Nat) (hdl : ds.length ≤ maxLen) (y : Tr) (p01 p02 p03 : Option Addr) (g01 g02 g03 : Nat) (cb n : Nat) (d : Int) (w : World) (r0 : (reads (NeK cb) w h).ex y [.int .i64 y.k, .string y.s, .int .i64 y.n, .slice p01 y.l.length g01, .slice p02 y.ds.length g02, .slice p03 y.al.length g03]) (rd : RowOf (NeK cb) w (reads (NeK cb) w h).de 9 o2 ds) (hc : Ctr w cb n) (hn : n ≤ 200) (h0 : -2 ≤ d) (h1 : d ≤ 12) :
    Calls Tryz.prog 135 #[.pointer (some ⟨cb, 0, none⟩), .iface 216 (.agg #[.slice o2 ds.length c2, .int .i64 y.k, .string y.s, .int .i64 y.n, .slice p01 y.l.length g01, .slice p02 y.ds.length g02, .slice p03 y.al.length g03]), .int .i64 d] w (Cres cb n w ((decsB (okz h).de ds 6 (d + 1) && decide (n + sumZ (cnt h).de ds ≤ 200)) && goodB (okz h).ex (cnt h).ex [y] (d + 1) (n + sumZ (cnt h).de ds)) (sumZ (cnt h).de ds + sumZ (cnt h).ex [y])) := by
  have HP := hide hP
  have HC := hide hc
  have hcb : cb < w.heap.size := heap_lt hc
  have R0 := hide r0
  have HD := hide hD
  have RD := hide rd
  have HDL := hide hdl
  clear hP hc r0 hD rd hdl
  have HB0 : Hid (Below w.heap.size w (w.alloc (.cells #[.slice o2 ds.length c2, .int .i64 y.k, .string y.s, .int .i64 y.n, .slice p01 y.l.length g01, .slice p02 y.ds.length g02, .slice p03 y.al.length g03] 216))) := (Below.refl _ w).alloc (Nat.le_refl _) _
  have HX0 : Hid ((w.alloc (.cells #[.slice o2 ds.length c2, .int .i64 y.k, .string y.s, .int .i64 y.n, .slice p01 y.l.length g01, .slice p02 y.ds.length g02, .slice p03 y.al.length g03] 216)).heap[w.heap.size]? = some (.cells #[.slice o2 ds.length c2, .int .i64 y.k, .string y.s, .int .i64 y.n, .slice p01 y.l.length g01, .slice p02 y.ds.length g02, .slice p03 y.al.length g03] 216 (0, 0))) := heap_alloc_new w _
  have ta1 := ta_6_1
  have ta2 := ta_6_2
  have ta3 := ta_6_3
  have ta4 := ta_6_4
  have ta5 := ta_6_5
  have ta6 := ta_6_6
  cases ht : (decsB (okz h).de ds 6 (d + 1) && decide (n + sumZ (cnt h).de ds ≤ 200))
  · have HT := hide ht
    clear ht
    go_enter Tryz.func135, Tryz.ntmps135
    go_wp2_with fail
    refine (HD.out ds o2 c2 _ cb n 6 (d + 1) (RD.out.later HB0.out (reads_later HB0.out h).2.1) HDL.out (HC.out.later HB0.out) hn (by omega) (by omega) (by omega) (by omega)).mono ?_
    rintro e w1 ⟨n1, rfl, hc1, hn1, hk1⟩
    rw [HT.out]
    have HC1 := hide hc1
    have HN1 := hide hn1
    have HK1 := hide ((Kp.of (cb := cb) HB0.out).on hk1)
    have HX1 := hide ((hk1.block w.heap.size (heap_lt HX0.out) (by omega)).trans HX0.out)
    clear hc1 hn1 hk1
    go_wp2
    go_ret
    exact ⟨n1, ret_bool (by simp), HC1.out, (fun hx => by simp at hx), HK1.out⟩
  · have HT := hide ht
    have hle : n + sumZ (cnt h).de ds ≤ 200 := by rw [Bool.and_eq_true] at ht; exact of_decide_eq_true ht.2
    clear ht
    go_enter Tryz.func135, Tryz.ntmps135
    go_wp2_with fail
    refine (HD.out ds o2 c2 _ cb n 6 (d + 1) (RD.out.later HB0.out (reads_later HB0.out h).2.1) HDL.out (HC.out.later HB0.out) hn (by omega) (by omega) (by omega) (by omega)).mono ?_
    rintro e w1 ⟨n1, rfl, hc1, hn1, hk1⟩
    rw [HT.out]
    have HC1 := hide hc1
    have HN1 := hide hn1
    have HK1 := hide ((Kp.of (cb := cb) HB0.out).on hk1)
    have HX1 := hide ((hk1.block w.heap.size (heap_lt HX0.out) (by omega)).trans HX0.out)
    clear hc1 hn1 hk1
    have hne1 := HN1.out HT.out
    have HNE := hide hne1
    have hn1 : n1 ≤ 200 := by omega
    clear hne1
    have x1 := cell_of HX1.out 1
    have x2 := cell_of HX1.out 2
    have x3 := cell_of HX1.out 3
    have x4 := cell_of HX1.out 4
    have x5 := cell_of HX1.out 5
    have x6 := cell_of HX1.out 6
    simp only [List.getElem?_toArray, List.getElem?_cons_succ, List.getElem?_cons_zero] at x1 x2 x3 x4 x5 x6
    have HA1 : Hid (Below w1.heap.size w1 (w1.alloc (.cells #[.int .i64 y.k, .string y.s, .int .i64 y.n, .slice p01 y.l.length g01, .slice p02 y.ds.length g02, .slice p03 y.al.length g03] 75))) := (Below.refl _ _).alloc (Nat.le_refl _) _
    have HK2 := hide (HK1.out.then HA1.out)
    have HROW : Hid (RowOf (NeK cb) (w1.alloc (.cells #[.int .i64 y.k, .string y.s, .int .i64 y.n, .slice p01 y.l.length g01, .slice p02 y.ds.length g02, .slice p03 y.al.length g03] 75)) (reads (NeK cb) (w1.alloc (.cells #[.int .i64 y.k, .string y.s, .int .i64 y.n, .slice p01 y.l.length g01, .slice p02 y.ds.length g02, .slice p03 y.al.length g03] 75)) h).ex 6 (some ⟨w1.heap.size, 0, none⟩) [y]) :=
      (filled1 ((reads_frame HK2.out.stays (fun _ h => h) h).1 _ _ R0.out)).row (heap_alloc_new _ _) (by show w1.heap.size ≠ cb; have := HK1.out.size; omega)
    go_wp2_with fail
    refine (HP.out [y] _ 1 _ cb n1 d HROW.out (show 1 ≤ maxLen by decide) (HC1.out.later HA1.out) hn1 (by omega) (by omega)).mono ?_
    rintro e w9 ⟨n9, rfl, hc9, hn9, hk9⟩
    have HC9 := hide hc9
    have HN9 := hide hn9
    have HK9 := hide (HK2.out.on hk9)
    clear hc9 hn9 hk9
    go_wp2
    go_ret
    refine ⟨n9, ret_bool (by rw [HNE.out]; simp), HC9.out, (fun hx => ?_), HK9.out⟩
    rw [HN9.out (by rw [HNE.out]; simpa using hx), HNE.out]
    omega

set_option maxHeartbeats 1000000 in
set_option maxRecDepth 100000 in
theorem formOk_7 {h : Nat} (hP : ChPs h) (hA : ChAs h) (al : List Tr) (o3 : Option Addr) (c3 : Nat) (hal : al.length ≤ maxLen) (y : Tr) (p01 p02 p03 : Option Addr) (g01 g02 g03 : Nat) (cb n : Nat) (d : Int) (w : World) (r0 : (reads (NeK cb) w h).ex y [.int .i64 y.k, .string y.s, .int .i64 y.n, .slice p01 y.l.length g01, .slice p02 y.ds.length g02, .slice p03 y.al.length g03]) (ra : RowOf (NeK cb) w (reads (NeK cb) w h).al 8 o3 al) (hc : Ctr w cb n) (hn : n ≤ 200) (h0 : -2 ≤ d) (h1 : d ≤ 12) :
    Calls Tryz.prog 135 #[.pointer (some ⟨cb, 0, none⟩), .iface 218 (.agg #[.int .i64 y.k, .string y.s, .int .i64 y.n, .slice p01 y.l.length g01, .slice p02 y.ds.length g02, .slice p03 y.al.length g03, .slice o3 al.length c3]), .int .i64 d] w (Cres cb n w (goodB (okz h).ex (cnt h).ex [y] (d + 1) n && (inB al.length 1 6 && goodB (fun a d => altB a && (okz h).al a d) (cnt h).al al (d + 1) (n + sumZ (cnt h).ex [y]))) (sumZ (cnt h).ex [y] + sumZ (cnt h).al al)) := by
  have HP := hide hP
  have HC := hide hc
  have hcb : cb < w.heap.size := heap_lt hc
  have R0 := hide r0
  have HA := hide hA
  have RA := hide ra
  have HAL := hide hal
  clear hP hc r0 hA ra hal
  have HB0 : Hid (Below w.heap.size w (w.alloc (.cells #[.int .i64 y.k, .string y.s, .int .i64 y.n, .slice p01 y.l.length g01, .slice p02 y.ds.length g02, .slice p03 y.al.length g03, .slice o3 al.length c3] 218))) := (Below.refl _ w).alloc (Nat.le_refl _) _
  have HX0 : Hid ((w.alloc (.cells #[.int .i64 y.k, .string y.s, .int .i64 y.n, .slice p01 y.l.length g01, .slice p02 y.ds.length g02, .slice p03 y.al.length g03, .slice o3 al.length c3] 218)).heap[w.heap.size]? = some (.cells #[.int .i64 y.k, .string y.s, .int .i64 y.n, .slice p01 y.l.length g01, .slice p02 y.ds.length g02, .slice p03 y.al.length g03, .slice o3 al.length c3] 218 (0, 0))) := heap_alloc_new w _
  have ta1 := ta_7_1
  have ta2 := ta_7_2
  have ta3 := ta_7_3
  have ta4 := ta_7_4
  have ta5 := ta_7_5
  have ta6 := ta_7_6
  have ta7 := ta_7_7
  cases ht : goodB (okz h).ex (cnt h).ex [y] (d + 1) n
  · have HT := hide ht
    clear ht
    have HA1 : Hid (Below (w.alloc (.cells #[.int .i64 y.k, .string y.s, .int .i64 y.n, .slice p01 y.l.length g01, .slice p02 y.ds.length g02, .slice p03 y.al.length g03, .slice o3 al.length c3] 218)).heap.size (w.alloc (.cells #[.int .i64 y.k, .string y.s, .int .i64 y.n, .slice p01 y.l.length g01, .slice p02 y.ds.length g02, .slice p03 y.al.length g03, .slice o3 al.length c3] 218)) ((w.alloc (.cells #[.int .i64 y.k, .string y.s, .int .i64 y.n, .slice p01 y.l.length g01, .slice p02 y.ds.length g02, .slice p03 y.al.length g03, .slice o3 al.length c3] 218)).alloc (.cells #[.int .i64 y.k, .string y.s, .int .i64 y.n, .slice p01 y.l.length g01, .slice p02 y.ds.length g02, .slice p03 y.al.length g03] 75))) := (Below.refl _ _).alloc (Nat.le_refl _) _
    have HB2 := hide (HB0.out.trans (HA1.out.mono HB0.out.size))
    have HROW : Hid (RowOf (NeK cb) ((w.alloc (.cells #[.int .i64 y.k, .string y.s, .int .i64 y.n, .slice p01 y.l.length g01, .slice p02 y.ds.length g02, .slice p03 y.al.length g03, .slice o3 al.length c3] 218)).alloc (.cells #[.int .i64 y.k, .string y.s, .int .i64 y.n, .slice p01 y.l.length g01, .slice p02 y.ds.length g02, .slice p03 y.al.length g03] 75)) (reads (NeK cb) ((w.alloc (.cells #[.int .i64 y.k, .string y.s, .int .i64 y.n, .slice p01 y.l.length g01, .slice p02 y.ds.length g02, .slice p03 y.al.length g03, .slice o3 al.length c3] 218)).alloc (.cells #[.int .i64 y.k, .string y.s, .int .i64 y.n, .slice p01 y.l.length g01, .slice p02 y.ds.length g02, .slice p03 y.al.length g03] 75)) h).ex 6 (some ⟨w.heap.size + 1, 0, none⟩) [y]) :=
      (filled1 ((reads_later HB2.out h).1 _ _ R0.out)).row (heap_alloc2_new w _ _) (by show w.heap.size + 1 ≠ cb; have := HB0.out.size; omega)
    go_enter Tryz.func135, Tryz.ntmps135
    go_wp2_with fail
    refine (HP.out [y] _ 1 _ cb n d HROW.out (show 1 ≤ maxLen by decide) (HC.out.later HB2.out) hn (by omega) (by omega)).mono ?_
    rintro e w9 ⟨n9, rfl, hc9, hn9, hk9⟩
    have HC9 := hide hc9
    have HN9 := hide hn9
    have HK9 := hide ((Kp.of (cb := cb) HB2.out).on hk9)
    have HX9 := hide ((hk9.block w.heap.size (Nat.lt_of_lt_of_le (heap_lt HX0.out) HA1.out.size) (by omega)).trans ((HA1.out.block w.heap.size (heap_lt HX0.out)).trans HX0.out))
    clear hc9 hn9 hk9
    rw [HT.out]
    go_wp2
    go_ret
    exact ⟨n9, ret_bool (by simp), HC9.out, (fun hx => by simp at hx), HK9.out⟩
  · have HT := hide ht
    have hle : n + sumZ (cnt h).ex [y] ≤ 200 := by unfold goodB at ht; rw [Bool.and_eq_true] at ht; exact of_decide_eq_true ht.2
    clear ht
    have HA1 : Hid (Below (w.alloc (.cells #[.int .i64 y.k, .string y.s, .int .i64 y.n, .slice p01 y.l.length g01, .slice p02 y.ds.length g02, .slice p03 y.al.length g03, .slice o3 al.length c3] 218)).heap.size (w.alloc (.cells #[.int .i64 y.k, .string y.s, .int .i64 y.n, .slice p01 y.l.length g01, .slice p02 y.ds.length g02, .slice p03 y.al.length g03, .slice o3 al.length c3] 218)) ((w.alloc (.cells #[.int .i64 y.k, .string y.s, .int .i64 y.n, .slice p01 y.l.length g01, .slice p02 y.ds.length g02, .slice p03 y.al.length g03, .slice o3 al.length c3] 218)).alloc (.cells #[.int .i64 y.k, .string y.s, .int .i64 y.n, .slice p01 y.l.length g01, .slice p02 y.ds.length g02, .slice p03 y.al.length g03] 75))) := (Below.refl _ _).alloc (Nat.le_refl _) _
    have HB2 := hide (HB0.out.trans (HA1.out.mono HB0.out.size))
    have HROW : Hid (RowOf (NeK cb) ((w.alloc (.cells #[.int .i64 y.k, .string y.s, .int .i64 y.n, .slice p01 y.l.length g01, .slice p02 y.ds.length g02, .slice p03 y.al.length g03, .slice o3 al.length c3] 218)).alloc (.cells #[.int .i64 y.k, .string y.s, .int .i64 y.n, .slice p01 y.l.length g01, .slice p02 y.ds.length g02, .slice p03 y.al.length g03] 75)) (reads (NeK cb) ((w.alloc (.cells #[.int .i64 y.k, .string y.s, .int .i64 y.n, .slice p01 y.l.length g01, .slice p02 y.ds.length g02, .slice p03 y.al.length g03, .slice o3 al.length c3] 218)).alloc (.cells #[.int .i64 y.k, .string y.s, .int .i64 y.n, .slice p01 y.l.length g01, .slice p02 y.ds.length g02, .slice p03 y.al.length g03] 75)) h).ex 6 (some ⟨w.heap.size + 1, 0, none⟩) [y]) :=
      (filled1 ((reads_later HB2.out h).1 _ _ R0.out)).row (heap_alloc2_new w _ _) (by show w.heap.size + 1 ≠ cb; have := HB0.out.size; omega)
    go_enter Tryz.func135, Tryz.ntmps135
    go_wp2_with fail
    refine (HP.out [y] _ 1 _ cb n d HROW.out (show 1 ≤ maxLen by decide) (HC.out.later HB2.out) hn (by omega) (by omega)).mono ?_
    rintro e w9 ⟨n9, rfl, hc9, hn9, hk9⟩
    have HC9 := hide hc9
    have HN9 := hide hn9
    have HK9 := hide ((Kp.of (cb := cb) HB2.out).on hk9)
    have HX9 := hide ((hk9.block w.heap.size (Nat.lt_of_lt_of_le (heap_lt HX0.out) HA1.out.size) (by omega)).trans ((HA1.out.block w.heap.size (heap_lt HX0.out)).trans HX0.out))
    clear hc9 hn9 hk9
    rw [HT.out]
    have hne9 := HN9.out HT.out
    have HNE := hide hne9
    have hn9 : n9 ≤ 200 := by omega
    clear hne9
    have x6 := cell_of HX9.out 6
    simp only [List.getElem?_toArray, List.getElem?_cons_succ, List.getElem?_cons_zero] at x6
    have st := HK9.out.stays
    go_wp2_with fail
    refine (HA.out al o3 c3 _ cb n9 d (RA.out.frame st (fun _ h => h) (reads_frame st (fun _ h => h) h).2.2) HAL.out HC9.out hn9 (by omega) (by omega)).mono ?_
    rintro e w8 ⟨n8, rfl, hc8, hn8, hk8⟩
    have HC8 := hide hc8
    have HN8 := hide hn8
    have HK8 := hide (HK9.out.on hk8)
    clear hc8 hn8 hk8 st
    go_wp2
    go_ret
    refine ⟨n8, ret_bool (by rw [HNE.out]; simp), HC8.out, (fun hx => ?_), HK8.out⟩
    rw [HN8.out (by rw [HNE.out]; simpa using hx), HNE.out]
    omega

end Go.Proofs.YtlaeenfeajkcfalGreat
