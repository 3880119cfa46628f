/- The program's checks of parts, alternatives and definitions, once those of less height are known. -/
import Derived.Test.YteoghpefilghdakGreatDoorYE
import Derived.Test.YteoghpefilghdakGreatDoorYF
namespace Go.Proofs.YteoghpefilghdakGreatDoor
open Go.ChangeShapes Go.WideShapes Go.ChangeAt Go.RowKit

/-- What was below B is there still, but for one block. -/
structure Kp (B cb : Nat) (w w' : World) : Prop where
  os : w'.os = w.os
  tape : w'.tape = w.tape
  output : w'.output = w.output
  size : w.heap.size ≤ w'.heap.size
  block : ∀ k, k < B → k ≠ cb → w'.heap[k]? = w.heap[k]?
theorem Kp.refl (B cb : Nat) (w : World) : Kp B cb w w := ⟨rfl, rfl, rfl, Nat.le_refl _, fun _ _ _ => rfl⟩
theorem Kp.of {B cb : Nat} {w w' : World} (h : Below B w w') : Kp B cb w w' := ⟨h.os, h.tape, h.output, h.size, fun k hk _ => h.block k hk⟩
theorem Kp.trans {B cb : Nat} {a b c : World} (h : Kp B cb a b) (k : Kp B cb b c) : Kp B cb a c := ⟨k.os.trans h.os, k.tape.trans h.tape, k.output.trans h.output, Nat.le_trans h.size k.size, fun x hx hn => (k.block x hx hn).trans (h.block x hx hn)⟩
theorem Kp.mono {B B' cb : Nat} {a b : World} (h : Kp B cb a b) (hB : B' ≤ B) : Kp B' cb a b := ⟨h.os, h.tape, h.output, h.size, fun x hx hn => h.block x (Nat.lt_of_lt_of_le hx hB) hn⟩
theorem Kp.on {cb : Nat} {a b c : World} (h : Kp a.heap.size cb a b) (k : Kp b.heap.size cb b c) : Kp a.heap.size cb a c := h.trans (k.mono h.size)
theorem Kp.then {cb : Nat} {a b c : World} (h : Kp a.heap.size cb a b) (k : Below b.heap.size b c) : Kp a.heap.size cb a c := h.on (Kp.of k)
theorem kp_set (B cb : Nat) (w : World) (v : Value) : Kp B cb w (w.setCell ⟨cb, 0, none⟩ v) := by
  have h := (Below.refl 0 w).setCell (p := ⟨cb, 0, none⟩) (Nat.zero_le _) v
  exact ⟨h.os, h.tape, h.output, h.size, fun k _ hn => heap_set_other v hn⟩
def NeK (cb : Nat) : Nat → Prop := fun b => b ≠ cb
theorem Kp.stays {cb : Nat} {w w' : World} (h : Kp w.heap.size cb w w') : Stays (NeK cb) w w' := ⟨h.size, fun b hb hl => h.block b hl hb⟩
def Ctr (w : World) (cb : Nat) (n : Int) : Prop := w.heap[cb]? = some (.cells #[.int .i64 n] 90 (0, 0))
theorem Ctr.later {w w' : World} {cb : Nat} {n : Int} (h : Ctr w cb n) (hb : Below w.heap.size w w') : Ctr w' cb n := (hb.block cb (heap_lt h)).trans h
theorem Ctr.set {w : World} {cb : Nat} {n m : Int} (h : Ctr w cb n) : Ctr (w.setCell ⟨cb, 0, none⟩ (.int .i64 m)) cb m := heap_set_same _ h

/-- So many are right, and all together no more than 200. -/
def goodTo (f : Tr → Int → Bool) (g : Tr → Nat) (xs : List Tr) (d : Int) (n i : Nat) : Bool := allZ f (xs.take i) d && decide (n + sumZ g (xs.take i) ≤ 200)
def goodB (f : Tr → Int → Bool) (g : Tr → Nat) (xs : List Tr) (d : Int) (n : Nat) : Bool := allZ f xs d && decide (n + sumZ g xs ≤ 200)
theorem goodTo_len (f : Tr → Int → Bool) (g : Tr → Nat) (xs : List Tr) (d : Int) (n : Nat) : goodTo f g xs d n xs.length = goodB f g xs d n := by
  unfold goodTo goodB
  rw [List.take_length]
theorem goodTo_next {f : Tr → Int → Bool} {g : Tr → Nat} {xs : List Tr} {d : Int} {n i : Nat} {x : Tr} (hx : xs[i]? = some x) (h : goodTo f g xs d n i = true) : goodTo f g xs d n (i + 1) = (f x d && decide (n + sumZ g (xs.take i) + g x ≤ 200)) := by
  unfold goodTo at *
  rw [Bool.and_eq_true] at h
  rw [allZ_take f xs d i x hx, sumZ_take g xs i x hx, h.1, Bool.true_and, Nat.add_assoc]
theorem goodTo_false {f : Tr → Int → Bool} {g : Tr → Nat} {xs : List Tr} {d : Int} {n i : Nat} (h : goodTo f g xs d n i = false) : goodB f g xs d n = false := by
  unfold goodTo at h
  unfold goodB
  rw [allZ_split f xs d i, sumZ_split g xs i]
  cases ha : allZ f (xs.take i) d
  · rfl
  · rw [ha, Bool.true_and] at h
    have := of_decide_eq_false h
    rw [decide_eq_false (by omega), Bool.and_false]
theorem goodTo_le {f : Tr → Int → Bool} {g : Tr → Nat} {xs : List Tr} {d : Int} {n i : Nat} (h : goodTo f g xs d n i = true) : n + sumZ g (xs.take i) ≤ 200 := by
  unfold goodTo at h
  rw [Bool.and_eq_true] at h
  exact of_decide_eq_true h.2

def Cres (cb n : Nat) (w : World) (ok : Bool) (c : Nat) (e : Ending) (w' : World) : Prop := ∃ n' : Nat, e = .returned (.bool ok) ∧ Ctr w' cb n' ∧ (ok = true → n' = n + c) ∧ Kp w.heap.size cb w w'
def ChEx (h : Nat) : Prop := ∀ (x : Tr) (cs : List Value) (w : World) (cb n : Nat) (d : Int), (reads (NeK cb) w h).ex x cs → Ctr w cb n → n ≤ 200 → -2 ≤ d → d ≤ 14 → Calls Tryz.prog 126 #[.pointer (some ⟨cb, 0, none⟩), .agg cs.toArray, .int .i64 d] w (Cres cb n w ((okz h).ex x d && decide (n + (cnt h).ex x ≤ 200)) ((cnt h).ex x))
def ChDe (h : Nat) : Prop := ∀ (x : Tr) (cs : List Value) (w : World) (cb n : Nat) (d : Int), (reads (NeK cb) w h).de x cs → Ctr w cb n → n ≤ 200 → -2 ≤ d → d ≤ 13 → Calls Tryz.prog 64 #[.pointer (some ⟨cb, 0, none⟩), .agg cs.toArray, .int .i64 d] w (Cres cb n w ((okz h).de x d && decide (n + (cnt h).de x ≤ 200)) ((cnt h).de x))
def ChPs (h : Nat) : Prop := ∀ (xs : List Tr) (o : Option Addr) (c : Nat) (w : World) (cb n : Nat) (d : Int), RowOf (NeK cb) w (reads (NeK cb) w h).ex 6 o xs → xs.length ≤ maxLen → Ctr w cb n → n ≤ 200 → -2 ≤ d → d ≤ 13 → Calls Tryz.prog 95 #[.pointer (some ⟨cb, 0, none⟩), .int .i64 d, .slice o xs.length c] w (Cres cb n w (goodB (okz h).ex (cnt h).ex xs (d + 1) n) (sumZ (cnt h).ex xs))
def ChAs (h : Nat) : Prop := ∀ (xs : List Tr) (o : Option Addr) (c : Nat) (w : World) (cb n : Nat) (d : Int), RowOf (NeK cb) w (reads (NeK cb) w h).al 8 o xs → xs.length ≤ maxLen → Ctr w cb n → n ≤ 200 → -2 ≤ d → d ≤ 13 → Calls Tryz.prog 149 #[.pointer (some ⟨cb, 0, none⟩), .slice o xs.length c, .int .i64 d] w (Cres cb n w (inB xs.length 1 6 && goodB (fun a d => altB a && (okz h).al a d) (cnt h).al xs (d + 1) n) (sumZ (cnt h).al xs))
def ChDs (h : Nat) : Prop := ∀ (xs : List Tr) (o : Option Addr) (c : Nat) (w : World) (cb n : Nat) (m d : Int), RowOf (NeK cb) w (reads (NeK cb) w h).de 9 o xs → xs.length ≤ maxLen → Ctr w cb n → n ≤ 200 → 0 ≤ m → m ≤ 12 → -2 ≤ d → d ≤ 13 → Calls Tryz.prog 35 #[.pointer (some ⟨cb, 0, none⟩), .slice o xs.length c, .int .i64 m, .int .i64 d] w (Cres cb n w (decsB (okz h).de xs m d && decide (n + sumZ (cnt h).de xs ≤ 200)) (sumZ (cnt h).de xs))

set_option maxHeartbeats 1000000 in
set_option maxRecDepth 100000 in
theorem partsOk_of {h : Nat} (hE : ChEx h) : ChPs h := by
  intro xs o c w cb n d hm hl hc hn h0 h1
  have HE := hide hE
  have HM := hide hm
  have HC := hide hc
  have hl2 : xs.length ≤ 9223372036854775807 := hl
  clear hE hm hc hl
  go_enter Tryz.func95, Tryz.ntmps95
  go_wp2
  go_loopw [11] (fun t wr => ∃ (i : Nat), i ≤ xs.length ∧ t = .int .i64 i ∧ goodTo (okz h).ex (cnt h).ex xs (d + 1) n i = true ∧ Ctr wr cb ((n + sumZ (cnt h).ex (xs.take i) : Nat) : Int) ∧ Kp w.heap.size cb w wr) (fun t _ => xs.length - (intOf t).toNat)
  case atStart => exact ⟨0, Nat.zero_le _, rfl, by simp [goodTo, allZ, sumZ, hn], by simpa [sumZ] using HC.out, Kp.refl _ _ _⟩
  case round =>
    obtain ⟨i, hi, rfl, hg, hcr, hkp⟩ := hrel
    have hle := goodTo_le hg
    have HG := hide hg
    have HCR := hide hcr
    have HKP := hide hkp
    clear hg hcr hkp
    by_cases hlt : i < xs.length
    · have hne : xs ≠ [] := by intro e; rw [e] at hlt; simp at hlt
      obtain ⟨x, hx⟩ : ∃ x, xs[i]? = some x := ⟨xs[i], List.getElem?_eq_getElem hlt⟩
      have st := HKP.out.stays
      obtain ⟨b, off, eo, hbn, hbl, hcs⟩ := (HM.out.frame st (fun _ h => h) (reads_frame st (fun _ h => h) h).1) hne
      subst eo
      obtain ⟨cs, hlen, hkey, hrd⟩ := hcs i x hx
      obtain ⟨p1, g1, p2, g2, p3, g3, rfl⟩ := ex_form hrd
      have q0 := hkey 0 _ rfl
      have q1 := hkey 1 _ rfl
      have q2 := hkey 2 _ rfl
      have q3 := hkey 3 _ rfl
      have q4 := hkey 4 _ rfl
      have q5 := hkey 5 _ rfl
      rw [Nat.add_zero] at q0
      have HX := hide hx
      have HRD := hide hrd
      clear hcs hx hne hkey hlen hrd st
      have hlt2 : (i : Int) < xs.length := by omega
      have HA0 : Hid (Below wr.heap.size wr (wr.alloc (.cells #[.int .i64 x.k, .string x.s, .int .i64 x.n, .slice p1 x.l.length g1, .slice p2 x.ds.length g2, .slice p3 x.al.length g3] 47))) := (Below.refl _ wr).alloc (Nat.le_refl _) _
      go_wp2_with fail
      refine (HE.out x _ _ cb (n + sumZ (cnt h).ex (xs.take i)) (d + 1) ((reads_later HA0.out h).1 _ _ HRD.out) (HCR.out.later HA0.out) hle (by omega) (by omega)).mono ?_
      rintro e w1 ⟨n', rfl, hc1, hn1, hk1⟩
      have hgn := goodTo_next HX.out HG.out
      rw [← hgn]
      have HN1 : Hid (goodTo (okz h).ex (cnt h).ex xs (d + 1) n (i + 1) = true → n' = n + sumZ (cnt h).ex (xs.take i) + (cnt h).ex x) := by rw [hgn]; exact hn1
      have HC1 := hide hc1
      have HK1 := hide ((HKP.out.then HA0.out).on hk1)
      clear hc1 hn1 hk1 hgn
      cases hgg : goodTo (okz h).ex (cnt h).ex xs (d + 1) n (i + 1)
      · have HGG := hide hgg
        clear hgg
        go_wp2
        go_ret
        exact ⟨n', ret_bool (goodTo_false HGG.out).symm, HC1.out, (fun hx => by rw [goodTo_false HGG.out] at hx; cases hx), HK1.out⟩
      · have HGG := hide hgg
        clear hgg
        go_wp2
        refine ⟨⟨i + 1, by omega, by go_num, HGG.out, ?_, HK1.out⟩, by simp [intOf]; omega⟩
        have h2 := HC1.out
        rw [HN1.out HGG.out] at h2
        rw [sumZ_take _ _ _ _ HX.out, ← Nat.add_assoc]
        exact h2
    · go_wp2
      go_ret
      have hie : i = xs.length := by omega
      have h2 := HG.out
      have h3 := HCR.out
      rw [hie, goodTo_len] at h2
      rw [hie, List.take_length] at h3
      exact ⟨_, ret_bool h2.symm, h3, fun _ => rfl, HKP.out⟩

theorem filled1 {R : Tr → List Value → Prop} {y : Tr} {a0 a1 a2 a3 a4 a5 : Value} (h : R y [a0, a1, a2, a3, a4, a5]) : Filled R 6 #[a0, a1, a2, a3, a4, a5] [y] := by
  intro k x hx
  match k, hx with
  | 0, hx =>
    have : y = x := by simpa using hx
    subst this
    exact ⟨_, rfl, fun j u hu => by simpa using hu, h⟩
  | k + 1, hx => simp at hx
theorem good_one (f : Tr → Int → Bool) (g : Tr → Nat) (y : Tr) (d : Int) (n : Nat) : goodB f g [y] d n = (f y d && decide (n + g y ≤ 200)) := by simp [goodB, allZ, sumZ]

set_option maxHeartbeats 1000000 in
set_option maxRecDepth 100000 in
theorem altsOk_of {h : Nat} (hP : ChPs h) : ChAs (h + 1) := by
  intro xs o c w cb n d hm hl hc hn h0 h1
  have HP := hide hP
  have HM := hide hm
  have HC := hide hc
  have hl2 : xs.length ≤ 9223372036854775807 := hl
  clear hP hm hc hl
  cases hin : inB xs.length 1 6
  · have hor : (xs.length : Int) < 1 ∨ (¬ (xs.length : Int) < 1 ∧ 6 < (xs.length : Int)) := by
      unfold inB at hin
      simp at hin
      omega
    clear hin
    rcases hor with ha | ⟨ha, hb⟩
    all_goals
      go_enter Tryz.func149, Tryz.ntmps149
      go_wp2
      go_ret
      exact ⟨n, ret_bool (by simp), HC.out, (fun hx => by simp at hx), Kp.refl _ _ _⟩
  have hb1 : ¬ (xs.length : Int) < 1 := by unfold inB at hin; simp at hin; omega
  have hb2 : ¬ 6 < (xs.length : Int) := by unfold inB at hin; simp at hin; omega
  clear hin
  go_enter Tryz.func149, Tryz.ntmps149
  go_wp2
  go_loopw [19] (fun t wr => ∃ (i : Nat), i ≤ xs.length ∧ t = .int .i64 i ∧ goodTo (fun a d => altB a && (okz (h + 1)).al a d) (cnt (h + 1)).al xs (d + 1) n i = true ∧ Ctr wr cb ((n + sumZ (cnt (h + 1)).al (xs.take i) : Nat) : Int) ∧ Kp w.heap.size cb w wr) (fun t _ => xs.length - (intOf t).toNat)
  case atStart => exact ⟨0, Nat.zero_le _, rfl, by simp [goodTo, allZ, sumZ, hn], by simpa [sumZ] using HC.out, Kp.refl _ _ _⟩
  case round =>
    obtain ⟨i, hi, rfl, hg, hcr, hkp⟩ := hrel
    have hle := goodTo_le hg
    have HG := hide hg
    have HCR := hide hcr
    have HKP := hide hkp
    clear hg hcr hkp
    by_cases hlt : i < xs.length
    · have hne : xs ≠ [] := by intro e; rw [e] at hlt; simp at hlt
      obtain ⟨x, hx⟩ : ∃ x, xs[i]? = some x := ⟨xs[i], List.getElem?_eq_getElem hlt⟩
      have st := HKP.out.stays
      obtain ⟨b, off, eo, hbn, hbl, hcs⟩ := (HM.out.frame st (fun _ h => h) (reads_frame st (fun _ h => h) (h + 1)).2.2) hne
      subst eo
      obtain ⟨cs, hlen, hkey, hrd⟩ := hcs i x hx
      have HRA := hide hrd
      obtain ⟨-, -, -, -, y, p0, g0, ce, hy, hce0, hss, hll, qs, hce, qe⟩ := hrd
      obtain ⟨p1, g1, p2, g2, p3, g3, rfl⟩ := ex_form qe
      subst hce0
      have q0 := hkey 0 (.string x.s) rfl
      have q1 := hkey 1 (.slice p0 x.ss.length g0) rfl
      have q2 := hkey 2 (.int .i64 y.k) rfl
      have q3 := hkey 3 (.string y.s) rfl
      have q4 := hkey 4 (.int .i64 y.n) rfl
      have q5 := hkey 5 (.slice p1 y.l.length g1) rfl
      have q6 := hkey 6 (.slice p2 y.ds.length g2) rfl
      have q7 := hkey 7 (.slice p3 y.al.length g3) rfl
      rw [Nat.add_zero] at q0
      have HX := hide hx
      have HY := hide hy
      have HQE := hide qe
      clear hcs hx hne hkey hlen hy hss hll qs hce qe st
      have hlt2 : (i : Int) < xs.length := by omega
      have HF : Hid (∀ D, (altB x && (okz (h + 1)).al x D) = (altB x && (okz h).ex y D)) := by
        intro D
        show (altB x && allZ (okz h).ex x.l D) = _
        rw [HY.out]
        simp [allZ]
      have HCN : Hid ((cnt (h + 1)).al x = (cnt h).ex y) := by
        show sumZ (cnt h).ex x.l = _
        rw [HY.out]
        simp [sumZ]
      have HA0 : Hid (Below wr.heap.size wr (wr.alloc (.cells #[.string x.s, .slice p0 x.ss.length g0, .int .i64 y.k, .string y.s, .int .i64 y.n, .slice p1 y.l.length g1, .slice p2 y.ds.length g2, .slice p3 y.al.length g3] 144))) := (Below.refl _ wr).alloc (Nat.le_refl _) _
      have HX0 : Hid ((wr.alloc (.cells #[.string x.s, .slice p0 x.ss.length g0, .int .i64 y.k, .string y.s, .int .i64 y.n, .slice p1 y.l.length g1, .slice p2 y.ds.length g2, .slice p3 y.al.length g3] 144)).heap[wr.heap.size]? = some (.cells #[.string x.s, .slice p0 x.ss.length g0, .int .i64 y.k, .string y.s, .int .i64 y.n, .slice p1 y.l.length g1, .slice p2 y.ds.length g2, .slice p3 y.al.length g3] 144 (0, 0))) := heap_alloc_new wr _
      cases hab : altB x
      · have HAB := hide hab
        clear hab
        go_wp2_with fail
        refine (patOk_any ((reads_later HA0.out (h + 1)).2.2 _ _ HRA.out)).mono ?_
        rintro e w1 ⟨rfl, hb⟩
        rw [HAB.out]
        have HB1 := hide (HA0.out.trans (hb.mono HA0.out.size))
        clear hb
        go_wp2
        go_ret
        have hgf : goodTo (fun a d => altB a && (okz (h + 1)).al a d) (cnt (h + 1)).al xs (d + 1) n (i + 1) = false := by
          rw [goodTo_next HX.out HG.out]
          show ((altB x && _) && _) = false
          rw [HAB.out]
          rfl
        exact ⟨_, ret_bool (by rw [goodTo_false hgf, Bool.and_false]), HCR.out.later HB1.out, (fun hx => by rw [goodTo_false hgf, Bool.and_false] at hx; cases hx), HKP.out.then HB1.out⟩
      · have HAB := hide hab
        clear hab
        go_wp2_with fail
        refine (patOk_any ((reads_later HA0.out (h + 1)).2.2 _ _ HRA.out)).mono ?_
        rintro e w1 ⟨rfl, hb⟩
        rw [HAB.out]
        have HB1 := hide (HA0.out.trans (hb.mono HA0.out.size))
        have HX1 := hide ((hb.block wr.heap.size (heap_lt HX0.out)).trans HX0.out)
        clear hb
        have r2 := cell_of HX1.out 2
        have r3 := cell_of HX1.out 3
        have r4 := cell_of HX1.out 4
        have r5 := cell_of HX1.out 5
        have r6 := cell_of HX1.out 6
        have r7 := cell_of HX1.out 7
        simp only [List.getElem?_toArray, List.getElem?_cons_succ, List.getElem?_cons_zero] at r2 r3 r4 r5 r6 r7
        have HA1 : Hid (Below w1.heap.size w1 (w1.alloc (.cells #[.int .i64 y.k, .string y.s, .int .i64 y.n, .slice p1 y.l.length g1, .slice p2 y.ds.length g2, .slice p3 y.al.length g3] 47))) := (Below.refl _ w1).alloc (Nat.le_refl _) _
        have HB2 := hide (HB1.out.trans (HA1.out.mono HB1.out.size))
        have hcb : cb < wr.heap.size := heap_lt HCR.out
        have HROW : Hid (RowOf (NeK cb) (w1.alloc (.cells #[.int .i64 y.k, .string y.s, .int .i64 y.n, .slice p1 y.l.length g1, .slice p2 y.ds.length g2, .slice p3 y.al.length g3] 47)) (reads (NeK cb) (w1.alloc (.cells #[.int .i64 y.k, .string y.s, .int .i64 y.n, .slice p1 y.l.length g1, .slice p2 y.ds.length g2, .slice p3 y.al.length g3] 47)) h).ex 6 (some ⟨w1.heap.size, 0, none⟩) [y]) :=
          (filled1 ((reads_later HB2.out h).1 _ _ HQE.out)).row (heap_alloc_new w1 _) (by show w1.heap.size ≠ cb; have := HB1.out.size; omega)
        go_wp2_with fail
        refine (HP.out [y] _ 1 _ cb (n + sumZ (cnt (h + 1)).al (xs.take i)) d HROW.out (show 1 ≤ maxLen by decide) (HCR.out.later HB2.out) hle h0 h1).mono ?_
        rintro e w2 ⟨n', rfl, hc1, hn1, hk1⟩
        have hgn := goodTo_next HX.out HG.out
        have hgo : goodB (okz h).ex (cnt h).ex [y] (d + 1) (n + sumZ (cnt (h + 1)).al (xs.take i)) = goodTo (fun a d => altB a && (okz (h + 1)).al a d) (cnt (h + 1)).al xs (d + 1) n (i + 1) := by
          rw [hgn, good_one]
          show _ = ((altB x && (okz (h + 1)).al x (d + 1)) && _)
          rw [HF.out, HAB.out, Bool.true_and, HCN.out]
        rw [hgo]
        have HN1 : Hid (goodTo (fun a d => altB a && (okz (h + 1)).al a d) (cnt (h + 1)).al xs (d + 1) n (i + 1) = true → n' = n + sumZ (cnt (h + 1)).al (xs.take i) + (cnt (h + 1)).al x) := by
          rw [← hgo, HCN.out]
          intro hx
          have := hn1 hx
          simpa [sumZ] using this
        have HC1 := hide hc1
        have HK1 := hide ((HKP.out.then HB2.out).on hk1)
        clear hc1 hn1 hk1 hgn hgo
        cases hgg : goodTo (fun a d => altB a && (okz (h + 1)).al a d) (cnt (h + 1)).al xs (d + 1) n (i + 1)
        · have HGG := hide hgg
          clear hgg
          go_wp2
          go_ret
          exact ⟨n', ret_bool (by rw [goodTo_false HGG.out, Bool.and_false]), HC1.out, (fun hx => by rw [goodTo_false HGG.out, Bool.and_false] at hx; cases hx), HK1.out⟩
        · have HGG := hide hgg
          clear hgg
          go_wp2
          refine ⟨⟨i + 1, by omega, by go_num, HGG.out, ?_, HK1.out⟩, by simp [intOf]; omega⟩
          have h2 := HC1.out
          rw [HN1.out HGG.out] at h2
          rw [sumZ_take _ _ _ _ HX.out, ← Nat.add_assoc]
          exact h2
    · go_wp2
      go_ret
      have hie : i = xs.length := by omega
      have h2 := HG.out
      have h3 := HCR.out
      rw [hie, goodTo_len] at h2
      rw [hie, List.take_length] at h3
      exact ⟨_, ret_bool (by rw [h2]; rfl), h3, fun _ => rfl, HKP.out⟩
end Go.Proofs.YteoghpefilghdakGreatDoor
