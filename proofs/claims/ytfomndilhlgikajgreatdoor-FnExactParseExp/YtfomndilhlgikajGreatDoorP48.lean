import Derived.Test.YtfomndilhlgikajGreatDoorP47
set_option maxHeartbeats 8000000
set_option maxRecDepth 100000
namespace Go.Proofs.YtfomndilhlgikajGreatDoor
open Go.ChangeShapes Go.WideShapes Go.ChangeAt Go.RowKit
theorem xl (T L : Bool) (n s : Nat) : (T && (L && decide (n + 1 + s <= 200))) = ((T && (L && (true && true))) && decide (n + (1 + s + 0 + 0) <= 200)) := by
 rw [show n + 1 + s = n + (1 + s + 0 + 0) by omega]
 cases T <;> cases L <;> simp
theorem JE (D L : Bool) (n sD sY : Nat) : ((D && decide (n + 1 + sD <= 200)) && (L && decide (n + 1 + sD + sY <= 200))) = ((true && (L && (true && D))) && decide (n + (1 + sY + 0 + sD) <= 200)) := by
 rw [show n + 1 + sD + sY = n + (1 + sY + 0 + sD) by omega]
 by_cases h : n + (1 + sY + 0 + sD) <= 200
 ·rw [decide_eq_true h, decide_eq_true (show n + 1 + sD <= 200 by omega)]
  cases D <;> cases L <;> rfl
 ·rw [decide_eq_false h]
  cases D <;> cases L <;> simp
theorem JM (I L A : Bool) (n sY sA : Nat) : ((L && decide (n + 1 + sY <= 200)) && (I && (A && decide (n + 1 + sY + sA <= 200)))) = ((I && (L && (A && true))) && decide (n + (1 + sY + sA + 0) <= 200)) := by
 rw [show n + 1 + sY + sA = n + (1 + sY + sA + 0) by omega]
 by_cases h : n + (1 + sY + sA + 0) <= 200
 ·rw [decide_eq_true h, decide_eq_true (show n + 1 + sY <= 200 by omega)]
  cases I <;> cases L <;> cases A <;> rfl
 ·rw [decide_eq_false h]
  cases I <;> cases L <;> cases A <;> simp
theorem Gy {l : List Tr} (h : l.length = 1) : ∃ y, l = [y] := by
 match l, h with
 | [y], _ => exact ⟨y, rfl⟩
theorem JF {l : List Tr} (h : l.length = 2) : ∃ y z, l = [y, z] := by
 match l, h with
 | [y, z], _ => exact ⟨y, z, rfl⟩
theorem MO {l : List Tr} (h : l.length = 3) : ∃ y z q, l = [y, z, q] := by
 match l, h with
 | [y, z, q], _ => exact ⟨y, z, q, rfl⟩
theorem eA {s t : ByteArray} {n m : Int} {u1 v1 u2 v2 u3 v3 : Nat} (h : cy s t n m u1 v1 u2 v2 u3 v3 = true) : u1 = v1 /\ u2 = v2 /\ u3 = v3 := by
 unfold cy at h
 simp only [Bool.and_eq_true, decide_eq_true_eq] at h
 exact ⟨h.2.2.1, h.2.2.2.1, h.2.2.2.2⟩
theorem Dn {h : Nat} {x : Tr} {d : Int} (hd : d <= 12) : (bJ (h + 1)).ex x d = (aH x && (bW (bJ h).ex x.l (d + 1) && (bW (fun a d => dY a && (bJ h).al a d) x.al (d + 1) && (decide (x.k ≠ 6) || cL (bJ h).de x.ds 6 (d + 1))))) := by
 show (decide (d <= 12) && _) = _
 rw [decide_eq_true hd, Bool.true_and]
theorem am {B cb : Nat} {w W : World} (hk : Kp B cb w W) {b j : Nat} {v : Value} (hb : b < B) (hn : b ≠ cb) (h : w.cell? ⟨b, j, none⟩ = some v) : W.cell? ⟨b, j, none⟩ = some v :=
 (World.cell?_of_block (a := ⟨b, j, none⟩) (hk.block b hb hn)).trans h
theorem wy {h : Nat} (iP : pz h) (iD : Bu h) (iA : DV h) : DX (h + 1) := by
 intro x cs w cb n d hr hc hn h0 h1
 obtain ⟨-, o1, c1, o2, c2, o3, c3, rfl, hs, hl, hd, ha, q1, q2, q3⟩ := hr
 have rW : (aW (h + 1)).ex x = 1 + aB (aW h).ex x.l + aB (aW h).al x.al + aB (aW h).de x.ds := rfl
 by_cases rX : 12 < d \/ n = 200
 ·refine et (wo x.k x.s x.n o1 o2 o3 x.l.length c1 x.ds.length c2 x.al.length c3 cb n d w hc hn rX) ?_ fun hx => ?_
  ·rcases rX with jq | jq
   ·have : (bJ (h + 1)).ex x d = false := by
     show (decide (d <= 12) && _) = false
     rw [decide_eq_false (by omega)]
     rfl
    rw [this]
    rfl
   ·rw [rW, decide_eq_false (show ¬ n + (1 + aB (aW h).ex x.l + aB (aW h).al x.al + aB (aW h).de x.ds) <= 200 by omega), Bool.and_false]
  ·exfalso
   rcases rX with jq | jq
   ·have h2 : (bJ (h + 1)).ex x d = false := by
     show (decide (d <= 12) && _) = false
     rw [decide_eq_false (by omega)]
     rfl
    rw [h2] at hx
    cases hx
   ·rw [rW, decide_eq_false (show ¬ n + (1 + aB (aW h).ex x.l + aB (aW h).al x.al + aB (aW h).de x.ds) <= 200 by omega), Bool.and_false] at hx
    cases hx
 have jq : d <= 12 := by omega
 have jn : n < 200 := by omega
 have no : (∀ W, Kp w.heap.size cb w W -> Calls Tryz.prog 112 #[.agg #[.int .i64 x.k, .string x.s, .int .i64 x.n, .slice o1 x.l.length c1, .slice o2 x.ds.length c2, .slice o3 x.al.length c3]] W fun e w' => e = .returned .nilIface /\ Below W.heap.size W w') -> aH x = false -> Calls Tryz.prog 101 #[.pointer (some ⟨cb, 0, none⟩), .agg #[.int .i64 x.k, .string x.s, .int .i64 x.n, .slice o1 x.l.length c1, .slice o2 x.ds.length c2, .slice o3 x.al.length c3], .int .i64 d] w (Cres cb n w ((bJ (h + 1)).ex x d && decide (n + (aW (h + 1)).ex x <= 200)) ((aW (h + 1)).ex x)) := by
  intro hf hh
  have hz : ((bJ (h + 1)).ex x d && decide (n + (aW (h + 1)).ex x <= 200)) = false := by rw [Dn jq, hh]; rfl
  refine et (dQ x.k x.s x.n o1 o2 o3 x.l.length c1 x.ds.length c2 x.al.length c3 cb n d w .nilIface false 0 hc jn jq hf fun W hk ql => ?_) hz.symm (fun hx => by rw [hz] at hx; cases hx)
  refine (vN cb d W).mono ?_
  rintro e w' ⟨rfl, rfl⟩
  exact ⟨n + 1, rfl, ql, (fun hx => by cases hx), Kp.refl _ _ _⟩
 by_cases hk9 : 1 <= x.k /\ x.k <= 9
 case neg => exact no (fun W _ => eU x.k x.s x.n o1 _ c1 o2 _ c2 o3 _ c3 W fun w' => xX x.k x.s x.n o1 _ c1 o2 _ c2 o3 _ c3 hk9 hl.1 w') (xP hk9)
 have KL : x.k = 1 \/ x.k = 2 \/ x.k = 3 \/ x.k = 4 \/ x.k = 5 \/ x.k = 6 \/ x.k = 7 \/ x.k = 8 \/ x.k = 9 := by omega
 rcases KL with hk | hk | hk | hk | hk | hk | hk | hk | hk
 ·have hh := FR hk 
  cases ho : cy x.s x.s 0 x.n 0 x.l.length 0 x.ds.length 0 x.al.length
  ·rw [ho, Bool.false_and] at hh
   refine no (fun W aL => ?_) hh
   rw [hk]
   exact Bc x.s x.n o1 x.l.length c1 o2 x.ds.length c2 o3 x.al.length c3  W  ho
  ·rw [ho, Bool.true_and] at hh
   obtain ⟨e1, e2, e3⟩ := eA ho
   have mR : x.al = [] := List.length_eq_zero_iff.1 e3.symm
   have jj : x.ds = [] := List.length_eq_zero_iff.1 e2.symm
   have iR : x.l = [] := List.length_eq_zero_iff.1 e1.symm
   have lj : (mf x.s) = ((bJ (h + 1)).ex x d && decide (n + (aW (h + 1)).ex x <= 200)) := by
    rw [Dn jq, rW, hh, hk, iR, mR, jj]
    have nN : decide (n + (1 + aB (aW h).ex [] + aB (aW h).al [] + aB (aW h).de []) <= 200) = true := decide_eq_true (by simp [aB]; omega)
    rw [nN]
    simp [bW]
   have tf : 1 + (0) = (aW (h + 1)).ex x := by
    rw [rW, iR, mR, jj]
    simp [aB]
   have gF := dQ 1 x.s x.n o1 o2 o3 x.l.length c1 x.ds.length c2 x.al.length c3 cb n d w (.iface 193 (.agg #[.string x.s])) (mf x.s) (0) hc jn jq (fun W aL => yn x.s x.n o1 x.l.length c1 o2 x.ds.length c2 o3 x.al.length c3  W  ho) (fun W aL ql => by
    refine (Bo cb x.s hs d W).mono ?_
    rintro e w' ⟨rfl, hb⟩
    exact ⟨n + 1, rfl, ql.later hb, fun _ => rfl, Kp.of hb⟩)
   have kI := et gF lj (fun _ => tf)
   rw [hk]
   exact kI
 ·have hh := Gp hk 
  cases ho : cy x.s x.s 0 x.n 0 x.l.length 0 x.ds.length 0 x.al.length
  ·rw [ho, Bool.false_and] at hh
   refine no (fun W aL => ?_) hh
   rw [hk]
   exact zM x.s x.n o1 x.l.length c1 o2 x.ds.length c2 o3 x.al.length c3  W  ho
  ·rw [ho, Bool.true_and] at hh
   obtain ⟨e1, e2, e3⟩ := eA ho
   have mR : x.al = [] := List.length_eq_zero_iff.1 e3.symm
   have jj : x.ds = [] := List.length_eq_zero_iff.1 e2.symm
   have iR : x.l = [] := List.length_eq_zero_iff.1 e1.symm
   have lj : (Do x.s) = ((bJ (h + 1)).ex x d && decide (n + (aW (h + 1)).ex x <= 200)) := by
    rw [Dn jq, rW, hh, hk, iR, mR, jj]
    have nN : decide (n + (1 + aB (aW h).ex [] + aB (aW h).al [] + aB (aW h).de []) <= 200) = true := decide_eq_true (by simp [aB]; omega)
    rw [nN]
    simp [bW]
   have tf : 1 + (0) = (aW (h + 1)).ex x := by
    rw [rW, iR, mR, jj]
    simp [aB]
   have gF := dQ 2 x.s x.n o1 o2 o3 x.l.length c1 x.ds.length c2 x.al.length c3 cb n d w (.iface 194 (.agg #[.string x.s])) (Do x.s) (0) hc jn jq (fun W aL => yo x.s x.n o1 x.l.length c1 o2 x.ds.length c2 o3 x.al.length c3  W  ho) (fun W aL ql => by
    refine (zW cb x.s hs d W).mono ?_
    rintro e w' ⟨rfl, hb⟩
    exact ⟨n + 1, rfl, ql.later hb, fun _ => rfl, Kp.of hb⟩)
   have kI := et gF lj (fun _ => tf)
   rw [hk]
   exact kI
 ·have hh := FO hk 
  cases ho : cy ⟨#[]⟩ x.s x.n x.n 0 x.l.length 0 x.ds.length 0 x.al.length
  ·rw [ho, Bool.false_and] at hh
   refine no (fun W aL => ?_) hh
   rw [hk]
   exact zU x.s x.n o1 x.l.length c1 o2 x.ds.length c2 o3 x.al.length c3  W  ho
  ·rw [ho, Bool.true_and] at hh
   obtain ⟨e1, e2, e3⟩ := eA ho
   have mR : x.al = [] := List.length_eq_zero_iff.1 e3.symm
   have jj : x.ds = [] := List.length_eq_zero_iff.1 e2.symm
   have iR : x.l = [] := List.length_eq_zero_iff.1 e1.symm
   have lj : (cz x.n 0 999999) = ((bJ (h + 1)).ex x d && decide (n + (aW (h + 1)).ex x <= 200)) := by
    rw [Dn jq, rW, hh, hk, iR, mR, jj]
    have nN : decide (n + (1 + aB (aW h).ex [] + aB (aW h).al [] + aB (aW h).de []) <= 200) = true := decide_eq_true (by simp [aB]; omega)
    rw [nN]
    simp [bW]
   have tf : 1 + (0) = (aW (h + 1)).ex x := by
    rw [rW, iR, mR, jj]
    simp [aB]
   have gF := dQ 3 x.s x.n o1 o2 o3 x.l.length c1 x.ds.length c2 x.al.length c3 cb n d w (.iface 196 (.agg #[.int .i64 x.n])) (cz x.n 0 999999) (0) hc jn jq (fun W aL => xW x.s x.n o1 x.l.length c1 o2 x.ds.length c2 o3 x.al.length c3  W  ho) (fun W aL ql => by
    refine (z7 cb x.n d W).mono ?_
    rintro e w' ⟨rfl, hb⟩
    exact ⟨n + 1, rfl, ql.later hb, fun _ => rfl, Kp.of hb⟩)
   have kI := et gF lj (fun _ => tf)
   rw [hk]
   exact kI
 ·by_cases fB : x.l.length = 2
  case neg => exact no (fun W _ => eU x.k x.s x.n o1 _ c1 o2 _ c2 o3 _ c3 W fun w' => by rw [hk]; exact At x.s x.n o1 _ c1 o2 _ c2 o3 _ c3 fB hl.1 w') (jh (n := 2) (by rw [hk]; decide) fB)
  obtain ⟨y, z, iR⟩ := JF fB
  obtain ⟨b, off, eo, bR, ay, dF⟩ := q1 (by rw [iR]; simp)
  subst eo
  obtain ⟨cs0, -, hky0, re0⟩ := dF 0 y (by rw [iR]; rfl)
  obtain ⟨p01, g01, p02, g02, p03, g03, rfl⟩ := cY re0
  obtain ⟨cs1, -, hky1, re1⟩ := dF 1 z (by rw [iR]; rfl)
  obtain ⟨p11, g11, p12, g12, p13, g13, rfl⟩ := cY re1
  have hh := Gu hk fB
  cases ho : cy ⟨#[]⟩ x.s 0 x.n 2 2 0 x.ds.length 0 x.al.length
  ·rw [ho, Bool.false_and] at hh
   refine no (fun W aL => ?_) hh
   rw [hk, fB]
   exact Bf x.s x.n b off c1 o2 x.ds.length c2 o3 x.al.length c3 _ _ _ _ _ _ _ _ _ _ _ _ W (am aL ay bR (hky0 0 _ rfl)) (am aL ay bR (hky0 1 _ rfl)) (am aL ay bR (hky0 2 _ rfl)) (am aL ay bR (hky0 3 _ rfl)) (am aL ay bR (hky0 4 _ rfl)) (am aL ay bR (hky0 5 _ rfl)) (am aL ay bR (hky1 0 _ rfl)) (am aL ay bR (hky1 1 _ rfl)) (am aL ay bR (hky1 2 _ rfl)) (am aL ay bR (hky1 3 _ rfl)) (am aL ay bR (hky1 4 _ rfl)) (am aL ay bR (hky1 5 _ rfl)) ho
  ·rw [ho, Bool.true_and] at hh
   obtain ⟨e1, e2, e3⟩ := eA ho
   have mR : x.al = [] := List.length_eq_zero_iff.1 e3.symm
   have jj : x.ds = [] := List.length_eq_zero_iff.1 e2.symm
   have lj : (cD (bJ h).ex (aW h).ex [y, z] (d + 1) (n + 1)) = ((bJ (h + 1)).ex x d && decide (n + (aW (h + 1)).ex x <= 200)) := by
    rw [Dn jq, rW, hh, hk, iR, mR, jj]
    exact xl true _ n _
   have tf : 1 + (aB (aW h).ex [y, z]) = (aW (h + 1)).ex x := by
    rw [rW, iR, mR, jj]
    simp only [aB, List.map_nil, List.sum_nil]
    omega
   have gF := dQ 4 x.s x.n (some ⟨b, off, none⟩) o2 o3 2 c1 x.ds.length c2 x.al.length c3 cb n d w (.iface 198 (.agg #[.int .i64 y.k, .string y.s, .int .i64 y.n, .slice p01 y.l.length g01, .slice p02 y.ds.length g02, .slice p03 y.al.length g03, .int .i64 z.k, .string z.s, .int .i64 z.n, .slice p11 z.l.length g11, .slice p12 z.ds.length g12, .slice p13 z.al.length g13])) (cD (bJ h).ex (aW h).ex [y, z] (d + 1) (n + 1)) (aB (aW h).ex [y, z]) hc jn jq (fun W aL => yr x.s x.n b off c1 o2 x.ds.length c2 o3 x.al.length c3 _ _ _ _ _ _ _ _ _ _ _ _ W (am aL ay bR (hky0 0 _ rfl)) (am aL ay bR (hky0 1 _ rfl)) (am aL ay bR (hky0 2 _ rfl)) (am aL ay bR (hky0 3 _ rfl)) (am aL ay bR (hky0 4 _ rfl)) (am aL ay bR (hky0 5 _ rfl)) (am aL ay bR (hky1 0 _ rfl)) (am aL ay bR (hky1 1 _ rfl)) (am aL ay bR (hky1 2 _ rfl)) (am aL ay bR (hky1 3 _ rfl)) (am aL ay bR (hky1 4 _ rfl)) (am aL ay bR (hky1 5 _ rfl)) ho) (fun W aL ql => by
    exact BO iP y z _ _ _ _ _ _ _ _ _ _ _ _ cb (n + 1) d W ((bm aL.stays (fun _ h => h) h).1 _ _ re0) ((bm aL.stays (fun _ h => h) h).1 _ _ re1) ql (by omega) h0 jq)
   have kI := et gF lj (fun _ => tf)
   rw [hk, fB]
   exact kI
 ·by_cases fB : x.l.length = 1
  case neg => exact no (fun W _ => eU x.k x.s x.n o1 _ c1 o2 _ c2 o3 _ c3 W fun w' => by rw [hk]; exact zK x.s x.n o1 _ c1 o2 _ c2 o3 _ c3 fB hl.1 w') (jh (n := 1) (by rw [hk]; decide) fB)
  obtain ⟨y, iR⟩ := Gy fB
  obtain ⟨b, off, eo, bR, ay, dF⟩ := q1 (by rw [iR]; simp)
  subst eo
  obtain ⟨cs0, -, hky0, re0⟩ := dF 0 y (by rw [iR]; rfl)
  obtain ⟨p01, g01, p02, g02, p03, g03, rfl⟩ := cY re0
  have hh := FW hk fB
  cases ho : cy x.s x.s 0 x.n 1 1 0 x.ds.length 0 x.al.length
  ·rw [ho, Bool.false_and] at hh
   refine no (fun W aL => ?_) hh
   rw [hk, fB]
   exact Ak x.s x.n b off c1 o2 x.ds.length c2 o3 x.al.length c3 _ _ _ _ _ _ W (am aL ay bR (hky0 0 _ rfl)) (am aL ay bR (hky0 1 _ rfl)) (am aL ay bR (hky0 2 _ rfl)) (am aL ay bR (hky0 3 _ rfl)) (am aL ay bR (hky0 4 _ rfl)) (am aL ay bR (hky0 5 _ rfl)) ho
  ·rw [ho, Bool.true_and] at hh
   obtain ⟨e1, e2, e3⟩ := eA ho
   have mR : x.al = [] := List.length_eq_zero_iff.1 e3.symm
   have jj : x.ds = [] := List.length_eq_zero_iff.1 e2.symm
   have lj : (nu x.s && cD (bJ h).ex (aW h).ex [y] (d + 1) (n + 1)) = ((bJ (h + 1)).ex x d && decide (n + (aW (h + 1)).ex x <= 200)) := by
    rw [Dn jq, rW, hh, hk, iR, mR, jj]
    rw [show (mf x.s || vk x.s) = nu x.s by unfold nu; rw [Bool.or_comm]]
    exact xl _ _ n _
   have tf : 1 + (aB (aW h).ex [y]) = (aW (h + 1)).ex x := by
    rw [rW, iR, mR, jj]
    simp only [aB, List.map_nil, List.sum_nil]
    omega
   have gF := dQ 5 x.s x.n (some ⟨b, off, none⟩) o2 o3 1 c1 x.ds.length c2 x.al.length c3 cb n d w (.iface 201 (.agg #[.string x.s, .int .i64 y.k, .string y.s, .int .i64 y.n, .slice p01 y.l.length g01, .slice p02 y.ds.length g02, .slice p03 y.al.length g03])) (nu x.s && cD (bJ h).ex (aW h).ex [y] (d + 1) (n + 1)) (aB (aW h).ex [y]) hc jn jq (fun W aL => yN x.s x.n b off c1 o2 x.ds.length c2 o3 x.al.length c3 _ _ _ _ _ _ W (am aL ay bR (hky0 0 _ rfl)) (am aL ay bR (hky0 1 _ rfl)) (am aL ay bR (hky0 2 _ rfl)) (am aL ay bR (hky0 3 _ rfl)) (am aL ay bR (hky0 4 _ rfl)) (am aL ay bR (hky0 5 _ rfl)) ho) (fun W aL ql => by
    exact AN iP x.s hs y _ _ _ _ _ _ cb (n + 1) d W ((bm aL.stays (fun _ h => h) h).1 _ _ re0) ql (by omega) h0 jq)
   have kI := et gF lj (fun _ => tf)
   rw [hk, fB]
   exact kI
 ·by_cases fB : x.l.length = 1
  case neg => exact no (fun W _ => eU x.k x.s x.n o1 _ c1 o2 _ c2 o3 _ c3 W fun w' => by rw [hk]; exact Bb x.s x.n o1 _ c1 o2 _ c2 o3 _ c3 fB hl.1 w') (jh (n := 1) (by rw [hk]; decide) fB)
  obtain ⟨y, iR⟩ := Gy fB
  obtain ⟨b, off, eo, bR, ay, dF⟩ := q1 (by rw [iR]; simp)
  subst eo
  obtain ⟨cs0, -, hky0, re0⟩ := dF 0 y (by rw [iR]; rfl)
  obtain ⟨p01, g01, p02, g02, p03, g03, rfl⟩ := cY re0
  have hh := Hb hk fB
  cases ho : cy ⟨#[]⟩ x.s 0 x.n 1 1 x.ds.length x.ds.length 0 x.al.length
  ·rw [ho, Bool.false_and] at hh
   refine no (fun W aL => ?_) hh
   rw [hk, fB]
   exact AD x.s x.n b off c1 o2 x.ds.length c2 o3 x.al.length c3 _ _ _ _ _ _ W (am aL ay bR (hky0 0 _ rfl)) (am aL ay bR (hky0 1 _ rfl)) (am aL ay bR (hky0 2 _ rfl)) (am aL ay bR (hky0 3 _ rfl)) (am aL ay bR (hky0 4 _ rfl)) (am aL ay bR (hky0 5 _ rfl)) ho
  ·rw [ho, Bool.true_and] at hh
   obtain ⟨e1, e2, e3⟩ := eA ho
   have mR : x.al = [] := List.length_eq_zero_iff.1 e3.symm
   have lj : ((cL (bJ h).de x.ds 6 (d + 1) && decide (n + 1 + aB (aW h).de x.ds <= 200)) && cD (bJ h).ex (aW h).ex [y] (d + 1) (n + 1 + aB (aW h).de x.ds)) = ((bJ (h + 1)).ex x d && decide (n + (aW (h + 1)).ex x <= 200)) := by
    rw [Dn jq, rW, hh, hk, iR, mR]
    exact JE _ _ n _ _
   have tf : 1 + (aB (aW h).de x.ds + aB (aW h).ex [y]) = (aW (h + 1)).ex x := by
    rw [rW, iR, mR]
    simp only [aB, List.map_nil, List.sum_nil]
    omega
   have gF := dQ 6 x.s x.n (some ⟨b, off, none⟩) o2 o3 1 c1 x.ds.length c2 x.al.length c3 cb n d w (.iface 203 (.agg #[.slice o2 x.ds.length c2, .int .i64 y.k, .string y.s, .int .i64 y.n, .slice p01 y.l.length g01, .slice p02 y.ds.length g02, .slice p03 y.al.length g03])) ((cL (bJ h).de x.ds 6 (d + 1) && decide (n + 1 + aB (aW h).de x.ds <= 200)) && cD (bJ h).ex (aW h).ex [y] (d + 1) (n + 1 + aB (aW h).de x.ds)) (aB (aW h).de x.ds + aB (aW h).ex [y]) hc jn jq (fun W aL => xS x.s x.n b off c1 o2 x.ds.length c2 o3 x.al.length c3 _ _ _ _ _ _ W (am aL ay bR (hky0 0 _ rfl)) (am aL ay bR (hky0 1 _ rfl)) (am aL ay bR (hky0 2 _ rfl)) (am aL ay bR (hky0 3 _ rfl)) (am aL ay bR (hky0 4 _ rfl)) (am aL ay bR (hky0 5 _ rfl)) ho) (fun W aL ql => by
    exact Ac iP iD x.ds o2 c2 hd.1 y _ _ _ _ _ _ cb (n + 1) d W ((bm aL.stays (fun _ h => h) h).1 _ _ re0) (q2.frame aL.stays (fun _ h => h) (bm aL.stays (fun _ h => h) h).2.1) ql (by omega) h0 jq)
   have kI := et gF lj (fun _ => tf)
   rw [hk, fB]
   exact kI
 ·by_cases fB : x.l.length = 1
  case neg => exact no (fun W _ => eU x.k x.s x.n o1 _ c1 o2 _ c2 o3 _ c3 W fun w' => by rw [hk]; exact Az x.s x.n o1 _ c1 o2 _ c2 o3 _ c3 fB hl.1 w') (jh (n := 1) (by rw [hk]; decide) fB)
  obtain ⟨y, iR⟩ := Gy fB
  obtain ⟨b, off, eo, bR, ay, dF⟩ := q1 (by rw [iR]; simp)
  subst eo
  obtain ⟨cs0, -, hky0, re0⟩ := dF 0 y (by rw [iR]; rfl)
  obtain ⟨p01, g01, p02, g02, p03, g03, rfl⟩ := cY re0
  have hh := Gr hk fB
  cases ho : cy ⟨#[]⟩ x.s 0 x.n 1 1 0 x.ds.length x.al.length x.al.length
  ·rw [ho, Bool.false_and] at hh
   refine no (fun W aL => ?_) hh
   rw [hk, fB]
   exact Ag x.s x.n b off c1 o2 x.ds.length c2 o3 x.al.length c3 _ _ _ _ _ _ W (am aL ay bR (hky0 0 _ rfl)) (am aL ay bR (hky0 1 _ rfl)) (am aL ay bR (hky0 2 _ rfl)) (am aL ay bR (hky0 3 _ rfl)) (am aL ay bR (hky0 4 _ rfl)) (am aL ay bR (hky0 5 _ rfl)) ho
  ·rw [ho, Bool.true_and] at hh
   obtain ⟨e1, e2, e3⟩ := eA ho
   have jj : x.ds = [] := List.length_eq_zero_iff.1 e2.symm
   have lj : (cD (bJ h).ex (aW h).ex [y] (d + 1) (n + 1) && (cz x.al.length 1 6 && cD (fun a d => dY a && (bJ h).al a d) (aW h).al x.al (d + 1) (n + 1 + aB (aW h).ex [y]))) = ((bJ (h + 1)).ex x d && decide (n + (aW (h + 1)).ex x <= 200)) := by
    rw [Dn jq, rW, hh, hk, iR, jj]
    exact JM _ _ _ n _ _
   have tf : 1 + (aB (aW h).ex [y] + aB (aW h).al x.al) = (aW (h + 1)).ex x := by
    rw [rW, iR, jj]
    simp only [aB, List.map_nil, List.sum_nil]
    omega
   have gF := dQ 7 x.s x.n (some ⟨b, off, none⟩) o2 o3 1 c1 x.ds.length c2 x.al.length c3 cb n d w (.iface 205 (.agg #[.int .i64 y.k, .string y.s, .int .i64 y.n, .slice p01 y.l.length g01, .slice p02 y.ds.length g02, .slice p03 y.al.length g03, .slice o3 x.al.length c3])) (cD (bJ h).ex (aW h).ex [y] (d + 1) (n + 1) && (cz x.al.length 1 6 && cD (fun a d => dY a && (bJ h).al a d) (aW h).al x.al (d + 1) (n + 1 + aB (aW h).ex [y]))) (aB (aW h).ex [y] + aB (aW h).al x.al) hc jn jq (fun W aL => yd x.s x.n b off c1 o2 x.ds.length c2 o3 x.al.length c3 _ _ _ _ _ _ W (am aL ay bR (hky0 0 _ rfl)) (am aL ay bR (hky0 1 _ rfl)) (am aL ay bR (hky0 2 _ rfl)) (am aL ay bR (hky0 3 _ rfl)) (am aL ay bR (hky0 4 _ rfl)) (am aL ay bR (hky0 5 _ rfl)) ho) (fun W aL ql => by
    exact zT iP iA x.al o3 c3 ha.1 y _ _ _ _ _ _ cb (n + 1) d W ((bm aL.stays (fun _ h => h) h).1 _ _ re0) (q3.frame aL.stays (fun _ h => h) (bm aL.stays (fun _ h => h) h).2.2) ql (by omega) h0 jq)
   have kI := et gF lj (fun _ => tf)
   rw [hk, fB]
   exact kI
 ·by_cases fB : x.l.length = 3
  case neg => exact no (fun W _ => eU x.k x.s x.n o1 _ c1 o2 _ c2 o3 _ c3 W fun w' => by rw [hk]; exact AA x.s x.n o1 _ c1 o2 _ c2 o3 _ c3 fB hl.1 w') (jh (n := 3) (by rw [hk]; decide) fB)
  obtain ⟨y, z, q, iR⟩ := MO fB
  obtain ⟨b, off, eo, bR, ay, dF⟩ := q1 (by rw [iR]; simp)
  subst eo
  obtain ⟨cs0, -, hky0, re0⟩ := dF 0 y (by rw [iR]; rfl)
  obtain ⟨p01, g01, p02, g02, p03, g03, rfl⟩ := cY re0
  obtain ⟨cs1, -, hky1, re1⟩ := dF 1 z (by rw [iR]; rfl)
  obtain ⟨p11, g11, p12, g12, p13, g13, rfl⟩ := cY re1
  obtain ⟨cs2, -, hky2, re2⟩ := dF 2 q (by rw [iR]; rfl)
  obtain ⟨p21, g21, p22, g22, p23, g23, rfl⟩ := cY re2
  have hh := GQ hk fB
  cases ho : cy ⟨#[]⟩ x.s 0 x.n 3 3 0 x.ds.length 0 x.al.length
  ·rw [ho, Bool.false_and] at hh
   refine no (fun W aL => ?_) hh
   rw [hk, fB]
   exact zR x.s x.n b off c1 o2 x.ds.length c2 o3 x.al.length c3 _ _ _ _ _ _ _ _ _ _ _ _ _ _ _ _ _ _ W (am aL ay bR (hky0 0 _ rfl)) (am aL ay bR (hky0 1 _ rfl)) (am aL ay bR (hky0 2 _ rfl)) (am aL ay bR (hky0 3 _ rfl)) (am aL ay bR (hky0 4 _ rfl)) (am aL ay bR (hky0 5 _ rfl)) (am aL ay bR (hky1 0 _ rfl)) (am aL ay bR (hky1 1 _ rfl)) (am aL ay bR (hky1 2 _ rfl)) (am aL ay bR (hky1 3 _ rfl)) (am aL ay bR (hky1 4 _ rfl)) (am aL ay bR (hky1 5 _ rfl)) (am aL ay bR (hky2 0 _ rfl)) (am aL ay bR (hky2 1 _ rfl)) (am aL ay bR (hky2 2 _ rfl)) (am aL ay bR (hky2 3 _ rfl)) (am aL ay bR (hky2 4 _ rfl)) (am aL ay bR (hky2 5 _ rfl)) ho
  ·rw [ho, Bool.true_and] at hh
   obtain ⟨e1, e2, e3⟩ := eA ho
   have mR : x.al = [] := List.length_eq_zero_iff.1 e3.symm
   have jj : x.ds = [] := List.length_eq_zero_iff.1 e2.symm
   have lj : (cD (bJ h).ex (aW h).ex [y, z, q] (d + 1) (n + 1)) = ((bJ (h + 1)).ex x d && decide (n + (aW (h + 1)).ex x <= 200)) := by
    rw [Dn jq, rW, hh, hk, iR, mR, jj]
    exact xl true _ n _
   have tf : 1 + (aB (aW h).ex [y, z, q]) = (aW (h + 1)).ex x := by
    rw [rW, iR, mR, jj]
    simp only [aB, List.map_nil, List.sum_nil]
    omega
   have gF := dQ 8 x.s x.n (some ⟨b, off, none⟩) o2 o3 3 c1 x.ds.length c2 x.al.length c3 cb n d w (.iface 208 (.agg #[.int .i64 y.k, .string y.s, .int .i64 y.n, .slice p01 y.l.length g01, .slice p02 y.ds.length g02, .slice p03 y.al.length g03, .int .i64 z.k, .string z.s, .int .i64 z.n, .slice p11 z.l.length g11, .slice p12 z.ds.length g12, .slice p13 z.al.length g13, .int .i64 q.k, .string q.s, .int .i64 q.n, .slice p21 q.l.length g21, .slice p22 q.ds.length g22, .slice p23 q.al.length g23])) (cD (bJ h).ex (aW h).ex [y, z, q] (d + 1) (n + 1)) (aB (aW h).ex [y, z, q]) hc jn jq (fun W aL => yW x.s x.n b off c1 o2 x.ds.length c2 o3 x.al.length c3 _ _ _ _ _ _ _ _ _ _ _ _ _ _ _ _ _ _ W (am aL ay bR (hky0 0 _ rfl)) (am aL ay bR (hky0 1 _ rfl)) (am aL ay bR (hky0 2 _ rfl)) (am aL ay bR (hky0 3 _ rfl)) (am aL ay bR (hky0 4 _ rfl)) (am aL ay bR (hky0 5 _ rfl)) (am aL ay bR (hky1 0 _ rfl)) (am aL ay bR (hky1 1 _ rfl)) (am aL ay bR (hky1 2 _ rfl)) (am aL ay bR (hky1 3 _ rfl)) (am aL ay bR (hky1 4 _ rfl)) (am aL ay bR (hky1 5 _ rfl)) (am aL ay bR (hky2 0 _ rfl)) (am aL ay bR (hky2 1 _ rfl)) (am aL ay bR (hky2 2 _ rfl)) (am aL ay bR (hky2 3 _ rfl)) (am aL ay bR (hky2 4 _ rfl)) (am aL ay bR (hky2 5 _ rfl)) ho) (fun W aL ql => by
    exact zN iP y z q _ _ _ _ _ _ _ _ _ _ _ _ _ _ _ _ _ _ cb (n + 1) d W ((bm aL.stays (fun _ h => h) h).1 _ _ re0) ((bm aL.stays (fun _ h => h) h).1 _ _ re1) ((bm aL.stays (fun _ h => h) h).1 _ _ re2) ql (by omega) h0 jq)
   have kI := et gF lj (fun _ => tf)
   rw [hk, fB]
   exact kI
 ·by_cases fB : x.l.length = 2
  case neg => exact no (fun W _ => eU x.k x.s x.n o1 _ c1 o2 _ c2 o3 _ c3 W fun w' => by rw [hk]; exact AZ x.s x.n o1 _ c1 o2 _ c2 o3 _ c3 fB hl.1 w') (jh (n := 2) (by rw [hk]; decide) fB)
  obtain ⟨y, z, iR⟩ := JF fB
  obtain ⟨b, off, eo, bR, ay, dF⟩ := q1 (by rw [iR]; simp)
  subst eo
  obtain ⟨cs0, -, hky0, re0⟩ := dF 0 y (by rw [iR]; rfl)
  obtain ⟨p01, g01, p02, g02, p03, g03, rfl⟩ := cY re0
  obtain ⟨cs1, -, hky1, re1⟩ := dF 1 z (by rw [iR]; rfl)
  obtain ⟨p11, g11, p12, g12, p13, g13, rfl⟩ := cY re1
  have hh := Gl hk fB
  cases ho : cy x.s x.s 0 x.n 2 2 0 x.ds.length 0 x.al.length
  ·rw [ho, Bool.false_and] at hh
   refine no (fun W aL => ?_) hh
   rw [hk, fB]
   exact BH x.s x.n b off c1 o2 x.ds.length c2 o3 x.al.length c3 _ _ _ _ _ _ _ _ _ _ _ _ W (am aL ay bR (hky0 0 _ rfl)) (am aL ay bR (hky0 1 _ rfl)) (am aL ay bR (hky0 2 _ rfl)) (am aL ay bR (hky0 3 _ rfl)) (am aL ay bR (hky0 4 _ rfl)) (am aL ay bR (hky0 5 _ rfl)) (am aL ay bR (hky1 0 _ rfl)) (am aL ay bR (hky1 1 _ rfl)) (am aL ay bR (hky1 2 _ rfl)) (am aL ay bR (hky1 3 _ rfl)) (am aL ay bR (hky1 4 _ rfl)) (am aL ay bR (hky1 5 _ rfl)) ho
  ·rw [ho, Bool.true_and] at hh
   obtain ⟨e1, e2, e3⟩ := eA ho
   have mR : x.al = [] := List.length_eq_zero_iff.1 e3.symm
   have jj : x.ds = [] := List.length_eq_zero_iff.1 e2.symm
   have lj : (Aw x.s && cD (bJ h).ex (aW h).ex [y, z] (d + 1) (n + 1)) = ((bJ (h + 1)).ex x d && decide (n + (aW (h + 1)).ex x <= 200)) := by
    rw [Dn jq, rW, hh, hk, iR, mR, jj]
    exact xl _ _ n _
   have tf : 1 + (aB (aW h).ex [y, z]) = (aW (h + 1)).ex x := by
    rw [rW, iR, mR, jj]
    simp only [aB, List.map_nil, List.sum_nil]
    omega
   have gF := dQ 9 x.s x.n (some ⟨b, off, none⟩) o2 o3 2 c1 x.ds.length c2 x.al.length c3 cb n d w (.iface 210 (.agg #[.string x.s, .int .i64 y.k, .string y.s, .int .i64 y.n, .slice p01 y.l.length g01, .slice p02 y.ds.length g02, .slice p03 y.al.length g03, .int .i64 z.k, .string z.s, .int .i64 z.n, .slice p11 z.l.length g11, .slice p12 z.ds.length g12, .slice p13 z.al.length g13])) (Aw x.s && cD (bJ h).ex (aW h).ex [y, z] (d + 1) (n + 1)) (aB (aW h).ex [y, z]) hc jn jq (fun W aL => yY x.s x.n b off c1 o2 x.ds.length c2 o3 x.al.length c3 _ _ _ _ _ _ _ _ _ _ _ _ W (am aL ay bR (hky0 0 _ rfl)) (am aL ay bR (hky0 1 _ rfl)) (am aL ay bR (hky0 2 _ rfl)) (am aL ay bR (hky0 3 _ rfl)) (am aL ay bR (hky0 4 _ rfl)) (am aL ay bR (hky0 5 _ rfl)) (am aL ay bR (hky1 0 _ rfl)) (am aL ay bR (hky1 1 _ rfl)) (am aL ay bR (hky1 2 _ rfl)) (am aL ay bR (hky1 3 _ rfl)) (am aL ay bR (hky1 4 _ rfl)) (am aL ay bR (hky1 5 _ rfl)) ho) (fun W aL ql => by
    exact Bs iP x.s y z _ _ _ _ _ _ _ _ _ _ _ _ cb (n + 1) d W ((bm aL.stays (fun _ h => h) h).1 _ _ re0) ((bm aL.stays (fun _ h => h) h).1 _ _ re1) ql (by omega) h0 jq)
   have kI := et gF lj (fun _ => tf)
   rw [hk, fB]
   exact kI
theorem wm {h : Nat} (o : Option Addr) (c : Nat) (w : World) (cb n : Nat) (d : Int) (hc : Ctr w cb n) : Calls Tryz.prog 217 #[.pointer (some ⟨cb, 0, none⟩), .slice o ([] : List Tr).length c, .int .i64 d] w (Cres cb n w (cz (([] : List Tr).length : Int) 1 6 && cD (fun a d => dY a && (bJ h).al a d) (aW h).al [] (d + 1) n) (aB (aW h).al [])) := by
 have HC := aa hc
 clear hc
 have gA : cz (([] : List Tr).length : Int) 1 6 = false := by decide
 rw [gA, Bool.false_and]
 go_enter Tryz.func217, Tryz.ntmps217
 go_wp2
 go_ret
 exact ⟨n, rfl, HC.out, (fun hx => by cases hx), Kp.refl _ _ _⟩
theorem yJ {w : World} {g : Nat} (hg : w.heap.size <= g) : ∀ h, (∀ e cs, (reads fO w h).ex e cs -> (reads (iq g) w h).ex e cs) /\ (∀ d cs, (reads fO w h).de d cs -> (reads (iq g) w h).de d cs) /\ (∀ a cs, (reads fO w h).al a cs -> (reads (iq g) w h).al a cs) := by
 have row : ∀ {α : Type} {R R' : α -> List Value -> Prop} {size : Nat} {o : Option Addr} {xs : List α}, RowOf fO w R size o xs -> (∀ x cs, R x cs -> R' x cs) -> RowOf (iq g) w R' size o xs := by
  intro α R R' size o xs hm hR bU
  obtain ⟨b, off, e, -, hl, hc⟩ := hm bU
  refine ⟨b, off, e, (by show b ≠ g; omega), hl, fun i x hx => ?_⟩
  obtain ⟨cs, h1, h2, h3⟩ := hc i x hx
  exact ⟨cs, h1, h2, hR x cs h3⟩
 intro h
 induction h with
 | zero => exact ⟨fun _ _ h => h, fun _ _ h => h, fun _ _ h => h⟩
 | succ h ih =>
  obtain ⟨ih1, ih2, ih3⟩ := ih
  refine ⟨fun e cs he => ?_, fun d cs hd => ?_, fun a cs ha => ?_⟩
  ·obtain ⟨e0, o1, c1, o2, c2, o3, c3, e1, e2, e3, e4, e5, r1, r2, r3⟩ := he
   exact ⟨e0, o1, c1, o2, c2, o3, c3, e1, e2, e3, e4, e5, row r1 ih1, row r2 ih2, row r3 ih3⟩
  ·obtain ⟨d0, d1, d2, e, o1, c1, ce, o2, c2, e0, e1, e2, e3, e4, r1, e5, r2, r3⟩ := hd
   exact ⟨d0, d1, d2, e, o1, c1, ce, o2, c2, e0, e1, e2, e3, e4, row r1 (fun _ _ h => h), e5, ih1 _ _ r2, row r3 ih2⟩
  ·obtain ⟨a0, a1, a2, a3, e, o1, c1, ce, e0, e1, e2, e3, r1, e4, r2⟩ := ha
   exact ⟨a0, a1, a2, a3, e, o1, c1, ce, e0, e1, e2, e3, row r1 (fun _ _ h => h), e4, ih1 _ _ r2⟩
theorem GN (h : Nat) : DX h /\ pz h /\ DQ h /\ Bu h /\ DV h := by
 have Hp : ∀ {K : Nat -> Prop} {w : World} {size : Nat} {o : Option Addr} {xs : List Tr}, RowOf K w (fun _ _ => False) size o xs -> xs = [] := by
  intro K w size o xs hm
  cases xs with
  | nil => rfl
  | cons x r =>
   obtain ⟨_, _, _, _, _, hc⟩ := hm (by simp)
   obtain ⟨_, _, _, hf⟩ := hc 0 x rfl
   exact hf.elim
 induction h with
 | zero =>
  have e0 : DX 0 := fun _ _ _ _ _ _ hr => hr.elim
  have d0 : DQ 0 := fun _ _ _ _ _ _ hr => hr.elim
  refine ⟨e0, pB e0, d0, qY d0, ?_⟩
  intro xs o c w cb n d hm hl hc hn h0 h1
  have B7 : xs = [] := Hp hm
  subst B7
  exact wm o c w cb n d hc
 | succ h ih =>
  obtain ⟨i1, i2, i3, i4, i5⟩ := ih
  have e1 := wy i2 i4 i5
  have d1 := Bw i2 i4
  exact ⟨e1, pB e1, d1, qY d1, yV i2⟩
theorem vV {w w' : World} {h g : Nat} {x : Tr} {cs : List Value} (hb : Below w.heap.size w w') (hr : (reads fO w h).ex x cs) (hg : w.heap.size <= g := by omega) : (reads (iq g) w' h).ex x cs :=
 (ap hb h).1 _ _ (((yJ hg h).1) _ _ hr)
theorem qE {w : World} {h : Nat} {x : Tr} {cs : List Value} (hr : (reads fO w h).ex x cs) :
 Calls Tryz.prog 46 #[.agg cs.toArray] w fun e w' => e = .returned (.bool ((bJ h).ex x 1 && decide ((aW h).ex x <= 200))) /\ Below w.heap.size w w' := by
 obtain ⟨o1, c1, o2, c2, o3, c3, rfl⟩ := cY hr
 have HR := aa hr
 clear hr
 have aR : Hid (Below w.heap.size w ((w.alloc (.cells #[.int .i64 x.k, .string x.s, .int .i64 x.n, .slice o1 x.l.length c1, .slice o2 x.ds.length c2, .slice o3 x.al.length c3] 34)).alloc (.cells #[.int .i64 0] 133))) := ((U4 w).alloc U0 _).alloc (by simp) _
 have gJ : Hid (Ctr ((w.alloc (.cells #[.int .i64 x.k, .string x.s, .int .i64 x.n, .slice o1 x.l.length c1, .slice o2 x.ds.length c2, .slice o3 x.al.length c3] 34)).alloc (.cells #[.int .i64 0] 133)) (w.heap.size + 1) ((0 : Nat) : Int)) := heap_alloc2_new w _ _
 go_enter Tryz.func46, Tryz.ntmps46
 go_wp2_with fail
 refine ((GN h).1 x _ _ (w.heap.size + 1) 0 1 ((vV aR.out HR.out)) gJ.out (by omega) (by omega) (by omega)).mono ?_
 rintro e w1 ⟨n', rfl, hc, hn, hk⟩
 have bD : Hid (Below w.heap.size w w1) := by
  have h2 := hk.mono (B' := w.heap.size) aR.out.size
  exact aR.out.trans ⟨h2.os, h2.tape, h2.output, h2.size, fun k hk => h2.block k hk (by omega)⟩
 clear hc hn hk
 go_wp2
 go_ret
 exact ⟨rfl, bD.out⟩
end Go.Proofs.YtfomndilhlgikajGreatDoor
