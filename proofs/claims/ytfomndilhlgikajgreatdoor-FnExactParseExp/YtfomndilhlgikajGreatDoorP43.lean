import Derived.Test.YtfomndilhlgikajGreatDoorP42
set_option maxHeartbeats 8000000
set_option maxRecDepth 100000
namespace Go.Proofs.YtfomndilhlgikajGreatDoor
open Go.ChangeShapes Go.WideShapes Go.ChangeAt Go.RowKit
structure Kp (B cb : Nat) (w w' : World) : Prop where
 os : w'.os = w.os
 tape : w'.tape = w.tape
 output : w'.output = w.output
 size : w.heap.size <= w'.heap.size
 block : ∀ k, k < B -> k ≠ cb -> w'.heap[k]? = w.heap[k]?
theorem Kp.refl (B cb : Nat) (w : World) : Kp B cb w w := ⟨rfl, rfl, rfl, Nat.le_refl _, fun _ _ _ => rfl⟩
theorem Kp.of {B cb : Nat} {w w' : World} (h : Below B w w') : Kp B cb w w' := ⟨h.os, h.tape, h.output, h.size, fun k hk _ => h.block k hk⟩
theorem Kp.trans {B cb : Nat} {a b c : World} (h : Kp B cb a b) (k : Kp B cb b c) : Kp B cb a c := ⟨k.os.trans h.os, k.tape.trans h.tape, k.output.trans h.output, Nat.le_trans h.size k.size, fun x hx hn => (k.block x hx hn).trans (h.block x hx hn)⟩
theorem Kp.mono {B B' cb : Nat} {a b : World} (h : Kp B cb a b) (hB : B' <= B) : Kp B' cb a b := ⟨h.os, h.tape, h.output, h.size, fun x hx hn => h.block x (Nat.lt_of_lt_of_le hx hB) hn⟩
theorem Kp.on {cb : Nat} {a b c : World} (h : Kp a.heap.size cb a b) (k : Kp b.heap.size cb b c) : Kp a.heap.size cb a c := h.trans (k.mono h.size)
theorem Kp.then {cb : Nat} {a b c : World} (h : Kp a.heap.size cb a b) (k : Below b.heap.size b c) : Kp a.heap.size cb a c := h.on (Kp.of k)
theorem BE (B cb : Nat) (w : World) (v : Value) : Kp B cb w (w.setCell ⟨cb, 0, none⟩ v) := by
 have h := (Below.refl 0 w).setCell (p := ⟨cb, 0, none⟩) (Nat.zero_le _) v
 exact ⟨h.os, h.tape, h.output, h.size, fun k _ hn => az v hn⟩
def iq (cb : Nat) : Nat -> Prop := fun b => b ≠ cb
theorem Kp.stays {cb : Nat} {w w' : World} (h : Kp w.heap.size cb w w') : Stays (iq cb) w w' := ⟨h.size, fun b hb hl => h.block b hl hb⟩
def Ctr (w : World) (cb : Nat) (n : Int) : Prop := w.heap[cb]? = some (.cells #[.int .i64 n] 133 (0, 0))
theorem Ctr.later {w w' : World} {cb : Nat} {n : Int} (h : Ctr w cb n) (hb : Below w.heap.size w w') : Ctr w' cb n := (hb.block cb (ad h)).trans h
theorem Ctr.set {w : World} {cb : Nat} {n m : Int} (h : Ctr w cb n) : Ctr (w.setCell ⟨cb, 0, none⟩ (.int .i64 m)) cb m := ae _ h
def cQ (f : Tr -> Int -> Bool) (g : Tr -> Nat) (xs : List Tr) (d : Int) (n i : Nat) : Bool := bW f (xs.take i) d && decide (n + aB g (xs.take i) <= 200)
def cD (f : Tr -> Int -> Bool) (g : Tr -> Nat) (xs : List Tr) (d : Int) (n : Nat) : Bool := bW f xs d && decide (n + aB g xs <= 200)
theorem lX (f : Tr -> Int -> Bool) (g : Tr -> Nat) (xs : List Tr) (d : Int) (n : Nat) : cQ f g xs d n xs.length = cD f g xs d n := by
 unfold cQ cD
 rw [List.take_length]
theorem iy {f : Tr -> Int -> Bool} {g : Tr -> Nat} {xs : List Tr} {d : Int} {n i : Nat} {x : Tr} (hx : xs[i]? = some x) (h : cQ f g xs d n i = true) : cQ f g xs d n (i + 1) = (f x d && decide (n + aB g (xs.take i) + g x <= 200)) := by
 unfold cQ at *
 rw [Bool.and_eq_true] at h
 rw [nd f xs d i x hx, fc g xs i x hx, h.1, Bool.true_and, Nat.add_assoc]
theorem dx {f : Tr -> Int -> Bool} {g : Tr -> Nat} {xs : List Tr} {d : Int} {n i : Nat} (h : cQ f g xs d n i = false) : cD f g xs d n = false := by
 unfold cQ at h
 unfold cD
 rw [pE f xs d i, lW g xs i]
 cases ha : bW f (xs.take i) d
 ·rfl
 ·rw [ha, Bool.true_and] at h
  have := of_decide_eq_false h
  rw [decide_eq_false (by omega), Bool.and_false]
theorem nf {f : Tr -> Int -> Bool} {g : Tr -> Nat} {xs : List Tr} {d : Int} {n i : Nat} (h : cQ f g xs d n i = true) : n + aB g (xs.take i) <= 200 := by
 unfold cQ at h
 rw [Bool.and_eq_true] at h
 exact of_decide_eq_true h.2
def Cres (cb n : Nat) (w : World) (ok : Bool) (c : Nat) (e : Ending) (w' : World) : Prop := ∃ n' : Nat, e = .returned (.bool ok) /\ Ctr w' cb n' /\ (ok = true -> n' = n + c) /\ Kp w.heap.size cb w w'
def DX (h : Nat) : Prop := ∀ (x : Tr) (cs : List Value) (w : World) (cb n : Nat) (d : Int), (reads (iq cb) w h).ex x cs -> Ctr w cb n -> n <= 200 -> -2 <= d -> d <= 14 -> Calls Tryz.prog 101 #[.pointer (some ⟨cb, 0, none⟩), .agg cs.toArray, .int .i64 d] w (Cres cb n w ((bJ h).ex x d && decide (n + (aW h).ex x <= 200)) ((aW h).ex x))
def DQ (h : Nat) : Prop := ∀ (x : Tr) (cs : List Value) (w : World) (cb n : Nat) (d : Int), (reads (iq cb) w h).de x cs -> Ctr w cb n -> n <= 200 -> -2 <= d -> d <= 13 -> Calls Tryz.prog 144 #[.pointer (some ⟨cb, 0, none⟩), .agg cs.toArray, .int .i64 d] w (Cres cb n w ((bJ h).de x d && decide (n + (aW h).de x <= 200)) ((aW h).de x))
def pz (h : Nat) : Prop := ∀ (xs : List Tr) (o : Option Addr) (c : Nat) (w : World) (cb n : Nat) (d : Int), RowOf (iq cb) w (reads (iq cb) w h).ex 6 o xs -> xs.length <= maxLen -> Ctr w cb n -> n <= 200 -> -2 <= d -> d <= 13 -> Calls Tryz.prog 200 #[.pointer (some ⟨cb, 0, none⟩), .int .i64 d, .slice o xs.length c] w (Cres cb n w (cD (bJ h).ex (aW h).ex xs (d + 1) n) (aB (aW h).ex xs))
def DV (h : Nat) : Prop := ∀ (xs : List Tr) (o : Option Addr) (c : Nat) (w : World) (cb n : Nat) (d : Int), RowOf (iq cb) w (reads (iq cb) w h).al 8 o xs -> xs.length <= maxLen -> Ctr w cb n -> n <= 200 -> -2 <= d -> d <= 13 -> Calls Tryz.prog 217 #[.pointer (some ⟨cb, 0, none⟩), .slice o xs.length c, .int .i64 d] w (Cres cb n w (cz xs.length 1 6 && cD (fun a d => dY a && (bJ h).al a d) (aW h).al xs (d + 1) n) (aB (aW h).al xs))
def Bu (h : Nat) : Prop := ∀ (xs : List Tr) (o : Option Addr) (c : Nat) (w : World) (cb n : Nat) (m d : Int), RowOf (iq cb) w (reads (iq cb) w h).de 9 o xs -> xs.length <= maxLen -> Ctr w cb n -> n <= 200 -> 0 <= m -> m <= 12 -> -2 <= d -> d <= 13 -> Calls Tryz.prog 89 #[.pointer (some ⟨cb, 0, none⟩), .slice o xs.length c, .int .i64 m, .int .i64 d] w (Cres cb n w (cL (bJ h).de xs m d && decide (n + aB (aW h).de xs <= 200)) (aB (aW h).de xs))
theorem pB {h : Nat} (hE : DX h) : pz h := by
 intro xs o c w cb n d hm hl hc hn h0 h1
 have HE := aa hE
 have HM := aa hm
 have HC := aa hc
 have iT : xs.length <= 9223372036854775807 := hl
 clear hE hm hc hl
 go_enter Tryz.func200, Tryz.ntmps200
 go_wp2
 go_loopw [11] (fun t wr => ∃ (i : Nat), i <= xs.length /\ t = .int .i64 i /\ cQ (bJ h).ex (aW h).ex xs (d + 1) n i = true /\ Ctr wr cb ((n + aB (aW h).ex (xs.take i) : Nat) : Int) /\ Kp w.heap.size cb w wr) (fun t _ => xs.length - (intOf t).toNat)
 case atStart => exact ⟨0, Nat.zero_le _, rfl, by simp [cQ, bW, aB, hn], by simpa [aB] using HC.out, Kp.refl _ _ _⟩
 case round =>
  obtain ⟨i, hi, rfl, hg, hcr, hkp⟩ := hrel
  have iL := nf hg
  have HG := aa hg
  have CT := aa hcr
  have zg := aa hkp
  clear hg hcr hkp
  by_cases au : i < xs.length
  ·have bU : xs ≠ [] := by intro e; rw [e] at au; simp at au
   obtain ⟨x, hx⟩ : ∃ x, xs[i]? = some x := ⟨xs[i], List.getElem?_eq_getElem au⟩
   have st := zg.out.stays
   obtain ⟨b, off, eo, bR, ay, dF⟩ := (HM.out.frame st (fun _ h => h) (bm st (fun _ h => h) h).1) bU
   subst eo
   obtain ⟨cs, bK, hkey, hrd⟩ := dF i x hx
   obtain ⟨p1, g1, p2, g2, p3, g3, rfl⟩ := cY hrd
   have q0 := hkey 0 _ rfl
   have q1 := hkey 1 _ rfl
   have q2 := hkey 2 _ rfl
   have q3 := hkey 3 _ rfl
   have q4 := hkey 4 _ rfl
   have q5 := hkey 5 _ rfl
   rw [Nat.add_zero] at q0
   have HX := aa hx
   have zu := aa hrd
   clear dF hx bU hkey bK hrd st
   have fX : (i : Int) < xs.length := by omega
   have vv : Hid (Below wr.heap.size wr (wr.alloc (.cells #[.int .i64 x.k, .string x.s, .int .i64 x.n, .slice p1 x.l.length g1, .slice p2 x.ds.length g2, .slice p3 x.al.length g3] 34))) := (U4 wr).alloc U0 _
   go_wp2_with fail
   refine (HE.out x _ _ cb (n + aB (aW h).ex (xs.take i)) (d + 1) ((ap vv.out h).1 _ _ zu.out) (CT.out.later vv.out) iL (by omega) (by omega)).mono ?_
   rintro e w1 ⟨n', rfl, mZ, jn, dV⟩
   have Cx := iy HX.out HG.out
   rw [<- Cx]
   have Dq : Hid (cQ (bJ h).ex (aW h).ex xs (d + 1) n (i + 1) = true -> n' = n + aB (aW h).ex (xs.take i) + (aW h).ex x) := by rw [Cx]; exact jn
   have gJ := aa mZ
   have ez := aa ((zg.out.then vv.out).on dV)
   clear mZ jn dV Cx
   cases hgg : cQ (bJ h).ex (aW h).ex xs (d + 1) n (i + 1)
   ·have qo := aa hgg
    clear hgg
    go_wp2
    go_ret
    exact ⟨n', ah (dx qo.out).symm, gJ.out, (fun hx => by rw [dx qo.out] at hx; cases hx), ez.out⟩
   ·have qo := aa hgg
    clear hgg
    go_wp2
    refine ⟨⟨i + 1, by omega, by go_num, qo.out, ?_, ez.out⟩, by simp [intOf]; omega⟩
    have h2 := gJ.out
    rw [Dq.out qo.out] at h2
    rw [fc _ _ _ _ HX.out, <- Nat.add_assoc]
    exact h2
  ·go_wp2
   go_ret
   have jQ : i = xs.length := by omega
   have h2 := HG.out
   have h3 := CT.out
   rw [jQ, lX] at h2
   rw [jQ, List.take_length] at h3
   exact ⟨_, ah h2.symm, h3, fun _ => rfl, zg.out⟩
theorem lh {R : Tr -> List Value -> Prop} {y : Tr} {a0 a1 a2 a3 a4 a5 : Value} (h : R y [a0, a1, a2, a3, a4, a5]) : Filled R 6 #[a0, a1, a2, a3, a4, a5] [y] := by
 intro k x hx
 match k, hx with
 | 0, hx =>
  have : y = x := by simpa using hx
  subst this
  exact ⟨_, rfl, fun j u hu => by simpa using hu, h⟩
 | k + 1, hx => simp at hx
theorem oV (f : Tr -> Int -> Bool) (g : Tr -> Nat) (y : Tr) (d : Int) (n : Nat) : cD f g [y] d n = (f y d && decide (n + g y <= 200)) := by simp [cD, bW, aB]
theorem yV {h : Nat} (hP : pz h) : DV (h + 1) := by
 intro xs o c w cb n d hm hl hc hn h0 h1
 have HP := aa hP
 have HM := aa hm
 have HC := aa hc
 have iT : xs.length <= 9223372036854775807 := hl
 clear hP hm hc hl
 cases gA : cz xs.length 1 6
 ·have Iw : (xs.length : Int) < 1 \/ (¬ (xs.length : Int) < 1 /\ 6 < (xs.length : Int)) := by
   unfold cz at gA
   simp at gA
   omega
  clear gA
  rcases Iw with ha | ⟨ha, hb⟩
  all_goals
   go_enter Tryz.func217, Tryz.ntmps217
   go_wp2
   go_ret
   exact ⟨n, ah (by simp), HC.out, (fun hx => by simp at hx), Kp.refl _ _ _⟩
 have bS : ¬ (xs.length : Int) < 1 := by unfold cz at gA; simp at gA; omega
 have aX : ¬ 6 < (xs.length : Int) := by unfold cz at gA; simp at gA; omega
 clear gA
 go_enter Tryz.func217, Tryz.ntmps217
 go_wp2
 go_loopw [19] (fun t wr => ∃ (i : Nat), i <= xs.length /\ t = .int .i64 i /\ cQ (fun a d => dY a && (bJ (h + 1)).al a d) (aW (h + 1)).al xs (d + 1) n i = true /\ Ctr wr cb ((n + aB (aW (h + 1)).al (xs.take i) : Nat) : Int) /\ Kp w.heap.size cb w wr) (fun t _ => xs.length - (intOf t).toNat)
 case atStart => exact ⟨0, Nat.zero_le _, rfl, by simp [cQ, bW, aB, hn], by simpa [aB] using HC.out, Kp.refl _ _ _⟩
 case round =>
  obtain ⟨i, hi, rfl, hg, hcr, hkp⟩ := hrel
  have iL := nf hg
  have HG := aa hg
  have CT := aa hcr
  have zg := aa hkp
  clear hg hcr hkp
  by_cases au : i < xs.length
  ·have bU : xs ≠ [] := by intro e; rw [e] at au; simp at au
   obtain ⟨x, hx⟩ : ∃ x, xs[i]? = some x := ⟨xs[i], List.getElem?_eq_getElem au⟩
   have st := zg.out.stays
   obtain ⟨b, off, eo, bR, ay, dF⟩ := (HM.out.frame st (fun _ h => h) (bm st (fun _ h => h) (h + 1)).2.2) bU
   subst eo
   obtain ⟨cs, bK, hkey, hrd⟩ := dF i x hx
   have QM := aa hrd
   obtain ⟨-, -, -, -, y, p0, g0, ce, hy, hce0, hss, Ke, qs, hce, qe⟩ := hrd
   obtain ⟨p1, g1, p2, g2, p3, g3, rfl⟩ := cY qe
   subst hce0
   have q0 := hkey 0 (.string x.s) rfl
   have q1 := hkey 1 (.slice p0 x.ss.length g0) rfl
   have q2 := hkey 2 (.int .i64 y.k) rfl
   have q3 := hkey 3 (.string y.s) rfl
   have q4 := hkey 4 (.int .i64 y.n) rfl
   have q5 := hkey 5 (.slice p1 y.l.length g1) rfl
   have q6 := hkey 6 (.slice p2 y.ds.length g2) rfl
   have q7 := hkey 7 (.slice p3 y.al.length g3) rfl
   rw [Nat.add_zero] at q0
   have HX := aa hx
   have HY := aa hy
   have OJ := aa qe
   clear dF hx bU hkey bK hy hss Ke qs hce qe st
   have fX : (i : Int) < xs.length := by omega
   have HF : Hid (∀ D, (dY x && (bJ (h + 1)).al x D) = (dY x && (bJ h).ex y D)) := by
    intro D
    show (dY x && bW (bJ h).ex x.l D) = _
    rw [HY.out]
    simp [bW]
   have zy : Hid ((aW (h + 1)).al x = (aW h).ex y) := by
    show aB (aW h).ex x.l = _
    rw [HY.out]
    simp [aB]
   have vv : Hid (Below wr.heap.size wr (wr.alloc (.cells #[.string x.s, .slice p0 x.ss.length g0, .int .i64 y.k, .string y.s, .int .i64 y.n, .slice p1 y.l.length g1, .slice p2 y.ds.length g2, .slice p3 y.al.length g3] 142))) := (U4 wr).alloc U0 _
   have aF : Hid ((wr.alloc (.cells #[.string x.s, .slice p0 x.ss.length g0, .int .i64 y.k, .string y.s, .int .i64 y.n, .slice p1 y.l.length g1, .slice p2 y.ds.length g2, .slice p3 y.al.length g3] 142)).heap[wr.heap.size]? = some (.cells #[.string x.s, .slice p0 x.ss.length g0, .int .i64 y.k, .string y.s, .int .i64 y.n, .slice p1 y.l.length g1, .slice p2 y.ds.length g2, .slice p3 y.al.length g3] 142 (0, 0))) := heap_alloc_new wr _
   cases hab : dY x
   ·have wF := aa hab
    clear hab
    go_wp2_with fail
    refine (rt ((ap vv.out (h + 1)).2.2 _ _ QM.out)).mono ?_
    rintro e w1 ⟨rfl, hb⟩
    rw [wF.out]
    have aR := aa (vv.out.trans (hb.mono vv.out.size))
    clear hb
    go_wp2
    go_ret
    have QX : cQ (fun a d => dY a && (bJ (h + 1)).al a d) (aW (h + 1)).al xs (d + 1) n (i + 1) = false := by
     rw [iy HX.out HG.out]
     show ((dY x && _) && _) = false
     rw [wF.out]
     rfl
    exact ⟨_, ah (by rw [dx QX, Bool.and_false]), CT.out.later aR.out, (fun hx => by rw [dx QX, Bool.and_false] at hx; cases hx), zg.out.then aR.out⟩
   ·have wF := aa hab
    clear hab
    go_wp2_with fail
    refine (rt ((ap vv.out (h + 1)).2.2 _ _ QM.out)).mono ?_
    rintro e w1 ⟨rfl, hb⟩
    rw [wF.out]
    have aR := aa (vv.out.trans (hb.mono vv.out.size))
    have aK := aa ((hb.block wr.heap.size (ad aF.out)).trans aF.out)
    clear hb
    have r2 := cell_of aK.out 2
    have r3 := cell_of aK.out 3
    have r4 := cell_of aK.out 4
    have r5 := cell_of aK.out 5
    have r6 := cell_of aK.out 6
    have r7 := cell_of aK.out 7
    simp only [U7, U8, U9] at r2 r3 r4 r5 r6 r7
    have qa : Hid (Below w1.heap.size w1 (w1.alloc (.cells #[.int .i64 y.k, .string y.s, .int .i64 y.n, .slice p1 y.l.length g1, .slice p2 y.ds.length g2, .slice p3 y.al.length g3] 34))) := (U4 w1).alloc U0 _
    have bD := aa (aR.out.trans (qa.out.mono aR.out.size))
    have Di : cb < wr.heap.size := ad CT.out
    have dh : Hid (RowOf (iq cb) (w1.alloc (.cells #[.int .i64 y.k, .string y.s, .int .i64 y.n, .slice p1 y.l.length g1, .slice p2 y.ds.length g2, .slice p3 y.al.length g3] 34)) (reads (iq cb) (w1.alloc (.cells #[.int .i64 y.k, .string y.s, .int .i64 y.n, .slice p1 y.l.length g1, .slice p2 y.ds.length g2, .slice p3 y.al.length g3] 34)) h).ex 6 (some ⟨w1.heap.size, 0, none⟩) [y]) :=
     (lh ((ap bD.out h).1 _ _ OJ.out)).row (heap_alloc_new w1 _) (by show w1.heap.size ≠ cb; have := aR.out.size; omega)
    go_wp2_with fail
    refine (HP.out [y] _ 1 _ cb (n + aB (aW (h + 1)).al (xs.take i)) d dh.out (show 1 <= maxLen by decide) (CT.out.later bD.out) iL h0 h1).mono ?_
    rintro e w2 ⟨n', rfl, mZ, jn, dV⟩
    have Cx := iy HX.out HG.out
    have zt : cD (bJ h).ex (aW h).ex [y] (d + 1) (n + aB (aW (h + 1)).al (xs.take i)) = cQ (fun a d => dY a && (bJ (h + 1)).al a d) (aW (h + 1)).al xs (d + 1) n (i + 1) := by
     rw [Cx, oV]
     show _ = ((dY x && (bJ (h + 1)).al x (d + 1)) && _)
     rw [HF.out, wF.out, Bool.true_and, zy.out]
    rw [zt]
    have Dq : Hid (cQ (fun a d => dY a && (bJ (h + 1)).al a d) (aW (h + 1)).al xs (d + 1) n (i + 1) = true -> n' = n + aB (aW (h + 1)).al (xs.take i) + (aW (h + 1)).al x) := by
     rw [<- zt, zy.out]
     intro hx
     have := jn hx
     simpa [aB] using this
    have gJ := aa mZ
    have ez := aa ((zg.out.then bD.out).on dV)
    clear mZ jn dV Cx zt
    cases hgg : cQ (fun a d => dY a && (bJ (h + 1)).al a d) (aW (h + 1)).al xs (d + 1) n (i + 1)
    ·have qo := aa hgg
     clear hgg
     go_wp2
     go_ret
     exact ⟨n', ah (by rw [dx qo.out, Bool.and_false]), gJ.out, (fun hx => by rw [dx qo.out, Bool.and_false] at hx; cases hx), ez.out⟩
    ·have qo := aa hgg
     clear hgg
     go_wp2
     refine ⟨⟨i + 1, by omega, by go_num, qo.out, ?_, ez.out⟩, by simp [intOf]; omega⟩
     have h2 := gJ.out
     rw [Dq.out qo.out] at h2
     rw [fc _ _ _ _ HX.out, <- Nat.add_assoc]
     exact h2
  ·go_wp2
   go_ret
   have jQ : i = xs.length := by omega
   have h2 := HG.out
   have h3 := CT.out
   rw [jQ, lX] at h2
   rw [jQ, List.take_length] at h3
   exact ⟨_, ah (by rw [h2]; rfl), h3, fun _ => rfl, zg.out⟩
end Go.Proofs.YtfomndilhlgikajGreatDoor
