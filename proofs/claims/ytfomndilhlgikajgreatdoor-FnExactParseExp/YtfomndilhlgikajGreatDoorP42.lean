import Derived.Test.YtfomndilhlgikajGreatDoorP41
set_option maxHeartbeats 8000000
set_option maxRecDepth 100000
namespace Go.Proofs.YtfomndilhlgikajGreatDoor
open Go.ChangeShapes Go.WideShapes Go.ChangeAt Go.RowKit
theorem xv {f : Tr -> Int -> Bool} {g : Tr -> Nat} {xs : List Tr} {i : Nat} {n d : Int} {a : Bool} {c : Nat} (h : Trk n (a && bW f (xs.take i) d) (c + aB g (xs.take i))) (hi : i < xs.length -> 200 < n) : Trk n (a && bW f xs d) (c + aB g xs) := by
 by_cases hl : i < xs.length
 ·have := h.stop (b := bW f (xs.drop i) d) (d := aB g (xs.drop i)) (hi hl)
  rw [pE f xs d i, lW g xs i]
  rw [Bool.and_assoc] at this
  rw [<- Nat.add_assoc]
  exact this
 ·rw [List.take_of_length_le (by omega)] at h
  exact h
theorem uM {f : Tr -> Int -> Bool} {g : Tr -> Nat} {xs : List Tr} {i : Nat} {x : Tr} {n r d : Int} {a : Bool} {c : Nat} (h : Trk n (a && bW f (xs.take i) d) (c + aB g (xs.take i))) (hx : xs[i]? = some x) (hn : n <= 200) (hr : Trk r (f x d) (g x)) : Trk (n + r) (a && bW f (xs.take (i + 1)) d) (c + aB g (xs.take (i + 1))) := by
 have := h.add hn hr
 rw [nd f xs d i x hx, fc g xs i x hx, <- Bool.and_assoc, <- Nat.add_assoc]
 exact this
theorem wx {f : Tr -> Int -> Bool} {xs : List Tr} {i : Nat} {x : Tr} {d : Int} (hx : xs[i]? = some x) (h : f x d = false) : bW f xs d = false := by
 unfold bW
 rw [List.all_eq_false]
 exact ⟨x, List.mem_of_getElem? hx, by rw [h]; simp⟩
def AK (h : Nat) : Prop := ∀ (K : Nat -> Prop) (x : Tr) (cs : List Value) (w : World) (d : Int), (reads K w h).ex x cs -> -2 <= d -> d <= 14 -> Calls Tryz.prog 97 #[.agg cs.toArray, .int .i64 d] w fun e w' => ∃ r : Int, e = .returned (.int .i64 r) /\ Trk r ((bJ h).ex x d) ((aW h).ex x) /\ 0 <= r /\ r <= 1000 + 201 * (14 - d) /\ Below w.heap.size w w'
def FV (h : Nat) : Prop := ∀ (K : Nat -> Prop) (x : Tr) (v0 v1 v2 v3 v4 v5 v6 v7 : Value) (w : World) (d : Int), (reads K w h).al x [v0, v1, v2, v3, v4, v5, v6, v7] -> -2 <= d -> d <= 14 -> Calls Tryz.prog 97 #[.agg #[v2, v3, v4, v5, v6, v7], .int .i64 d] w fun e w' => ∃ r : Int, e = .returned (.int .i64 r) /\ Trk r ((bJ h).al x d) ((aW h).al x) /\ 0 <= r /\ r <= 1000 + 201 * (14 - d) /\ Below w.heap.size w w'
def D9 (h : Nat) : Prop := ∀ (K : Nat -> Prop) (xs : List Tr) (o : Option Addr) (c : Nat) (w : World) (m d : Int), RowOf K w (reads K w h).de 9 o xs -> xs.length <= maxLen -> 0 <= m -> m <= 12 -> -2 <= d -> d <= 13 -> Calls Tryz.prog 64 #[.slice o xs.length c, .int .i64 m, .int .i64 d] w fun e w' => ∃ r : Int, e = .returned (.int .i64 r) /\ Trk r (cL (bJ h).de xs m d) (aB (aW h).de xs) /\ 0 <= r /\ r <= 1000 + 201 * (14 - d) /\ Below w.heap.size w w'
theorem xQ {h : Nat} (i1 : AK h) : FV (h + 1) := by
 intro K x v0 v1 v2 v3 v4 v5 v6 v7 w d hr h0 h1
 obtain ⟨-, -, -, -, y, o1, c1, ce, hy, he, hs, hl, q1, hce, q2⟩ := hr
 obtain ⟨a0, a1, a2, a3, a4, a5, rfl⟩ := six hce
 simp only [List.cons_append, List.nil_append, List.cons.injEq, and_true] at he
 obtain ⟨-, -, rfl, rfl, rfl, rfl, rfl, rfl⟩ := he
 refine (i1 K y _ w d q2 h0 h1).mono ?_
 rintro e w' ⟨r, he, ht, hr⟩
 refine ⟨r, he, ?_, hr⟩
 have e1 : (bJ (h + 1)).al x d = (bJ h).ex y d := by show bW (bJ h).ex x.l d = _; rw [hy]; simp [bW]
 have e2 : (aW (h + 1)).al x = (aW h).ex y := by show aB (aW h).ex x.l = _; rw [hy]; simp [aB]
 rw [e1, e2]
 exact ht
theorem sH {h : Nat} (i1 : AK h) (i2 : D9 h) (i3 : FV h) : AK (h + 1) := by
 intro K x cs w d hr h0 h1
 have Du := hr
 have CP := cY hr
 obtain ⟨-, o1, c1, o2, c2, o3, c3, rfl, hs, hl, hd, ha, q1, q2, q3⟩ := hr
 have I1 := aa i1
 have I2 := aa i2
 have I3 := aa i3
 have Q1 := aa q1
 have Q2 := aa q2
 have Q3 := aa q3
 have HR := aa Du
 have HD := aa hd
 have iT : x.l.length <= 9223372036854775807 := hl.1
 have JV : x.ds.length <= 9223372036854775807 := hd.1
 have Og : x.al.length <= 9223372036854775807 := ha.1
 clear i1 i2 i3 q1 q2 q3 Du CP hs hl hd ha
 have aq : Hid (Below w.heap.size w (w.alloc (.cells #[.int .i64 x.k, .string x.s, .int .i64 x.n, .slice o1 x.l.length c1, .slice o2 x.ds.length c2, .slice o3 x.al.length c3] 34))) := (U4 w).alloc U0 _
 have aF : Hid ((w.alloc (.cells #[.int .i64 x.k, .string x.s, .int .i64 x.n, .slice o1 x.l.length c1, .slice o2 x.ds.length c2, .slice o3 x.al.length c3] 34)).heap[w.heap.size]? = some (.cells #[.int .i64 x.k, .string x.s, .int .i64 x.n, .slice o1 x.l.length c1, .slice o2 x.ds.length c2, .slice o3 x.al.length c3] 34 (0, 0))) := heap_alloc_new w _
 by_cases rX : 12 < d
 ·go_enter Tryz.func97, Tryz.ntmps97
  go_wp2
  go_ret
  refine ⟨1000, rfl, ?_, by omega, by omega, aq.out⟩
  have : (bJ (h + 1)).ex x d = false := by
   show (decide (d <= 12) && _) = false
   rw [decide_eq_false (by omega)]
   rfl
  rw [this]
  exact Trk.bad (by omega)
 have vx : Hid ((bJ (h + 1)).ex x d = (aH x && (bW (bJ h).ex x.l (d + 1) && (bW (fun a d => dY a && (bJ h).al a d) x.al (d + 1) && (decide (x.k ≠ 6) || cL (bJ h).de x.ds 6 (d + 1)))))) := by
  show (decide (d <= 12) && _) = _
  rw [decide_eq_true (by omega), Bool.true_and]
 have zy : Hid ((aW (h + 1)).ex x = 1 + aB (aW h).ex x.l + aB (aW h).al x.al + aB (aW h).de x.ds) := rfl
 cases hh : aH x
 ·have HH := aa hh
  clear hh
  go_enter Tryz.func97, Tryz.ntmps97
  go_wp2_with fail
  refine (oW ((ap aq.out (h + 1)).1 _ _ HR.out)).mono ?_
  rintro e w1 ⟨rfl, hb⟩
  rw [HH.out]
  have aR := aa (aq.out.trans (hb.mono aq.out.size))
  clear hb
  go_wp2
  go_ret
  refine ⟨1000, rfl, ?_, by omega, by omega, aR.out⟩
  rw [vx.out, HH.out]
  exact Trk.bad (by omega)
 have HH := aa hh
 clear hh
 go_enter Tryz.func97, Tryz.ntmps97
 go_wp2_with fail
 refine (oW ((ap aq.out (h + 1)).1 _ _ HR.out)).mono ?_
 rintro e w1 ⟨rfl, hb⟩
 rw [HH.out]
 have aR := aa (aq.out.trans (hb.mono aq.out.size))
 have aK := aa ((hb.block w.heap.size (ad aF.out)).trans aF.out)
 clear hb
 go_wp2
 go_loopw [5, 6] (fun t5 t6 wr => ∃ (i : Nat) (n : Int), i <= x.l.length /\ t6 = .int .i64 i /\ t5 = .int .i64 n /\ Trk n (true && bW (bJ h).ex (x.l.take i) (d + 1)) (1 + aB (aW h).ex (x.l.take i)) /\ 0 <= n /\ n <= 1000 + 201 * (14 - d) /\ Below w1.heap.size w1 wr) (fun _ t6 _ => x.l.length - (intOf t6).toNat)
 case atStart => exact ⟨0, 1, Nat.zero_le _, rfl, rfl, Or.inl ⟨rfl, by simp [aB], by simp [aB]⟩, by omega, by omega, Below.refl _ _⟩
 case round =>
  obtain ⟨i, n, hi, rfl, rfl, oq, EE, jn, cA⟩ := hrel
  have zp := aa oq
  have dH := aa cA
  have Ds := aa ((cA.block w.heap.size (ad aK.out)).trans aK.out)
  clear oq cA
  have b0 := cell_of Ds.out 0
  have b3 := cell_of Ds.out 3
  have b4 := cell_of Ds.out 4
  have b5 := cell_of Ds.out 5
  simp only [U7, U8, U9] at b0 b3 b4 b5
  by_cases zt : i < x.l.length /\ n <= 200
  ·obtain ⟨au, hn⟩ := zt
   have bU : x.l ≠ [] := by intro e; rw [e] at au; simp at au
   obtain ⟨y, hy⟩ : ∃ y, x.l[i]? = some y := ⟨x.l[i], List.getElem?_eq_getElem au⟩
   have aX := aR.out.trans (dH.out.mono aR.out.size)
   obtain ⟨b, off, eo, -, ay, dF⟩ := (Q1.out.later aX (ap aX h).1) bU
   subst eo
   obtain ⟨cs, bK, hkey, hrd⟩ := dF i y hy
   obtain ⟨v0, v1, v2, v3, v4, v5, rfl⟩ := six bK
   have q0 := hkey 0 v0 rfl
   have q1 := hkey 1 v1 rfl
   have q2 := hkey 2 v2 rfl
   have q3 := hkey 3 v3 rfl
   have q4 := hkey 4 v4 rfl
   have q5 := hkey 5 v5 rfl
   rw [Nat.add_zero] at q0
   have HY := aa hy
   have zu := aa hrd
   clear dF hy bU hkey bK hrd aX
   have fX : (i : Int) < x.l.length := by omega
   go_wp2_with fail
   refine (I1.out K y _ _ (d + 1) zu.out (by omega) (by omega)).mono ?_
   rintro e w2 ⟨r, rfl, hr, Cd, qI, hb⟩
   have ET := aa hr
   have bD := aa hb
   clear hr hb
   go_wp2
   exact ⟨⟨i + 1, n + r, by omega, by go_num, by first | rfl | go_num, uM zp.out HY.out hn ET.out, by omega, by omega, dH.out.trans (bD.out.mono dH.out.size)⟩, by simp [intOf]; omega⟩
  ·have Me := aa (xv zp.out (fun _ => by omega))
   have bD := aa (aR.out.trans (dH.out.mono aR.out.size))
   clear zp
   rcases (show ¬ ((i : Int) < x.l.length) \/ ((i : Int) < x.l.length /\ ¬ n <= 200) by omega) with he | ⟨he, Jx⟩
   all_goals
    clear zt
    go_wp2
    clear b0 b3 b4 b5
    go_loopw [5, 7] (fun t5 t7 wq => ∃ (j : Nat) (m : Int), j <= x.al.length /\ t7 = .int .i64 j /\ t5 = .int .i64 m /\ Trk m ((true && bW (bJ h).ex x.l (d + 1)) && bW (fun a d => dY a && (bJ h).al a d) (x.al.take j) (d + 1)) (1 + aB (aW h).ex x.l + aB (aW h).al (x.al.take j)) /\ 0 <= m /\ m <= 1000 + 201 * (14 - d) /\ Below wr.heap.size wr wq) (fun _ t7 _ => x.al.length - (intOf t7).toNat)
    case atStart => exact ⟨0, n, Nat.zero_le _, rfl, rfl, Me.out.pass (by simp [bW]) (by simp [aB]), EE, jn, Below.refl _ _⟩
    case round =>
     obtain ⟨j, m, hj, rfl, rfl, oq, zv, vu, cA⟩ := hrel
     have zp := aa oq
     have Mq := aa cA
     have J0 := aa ((cA.block w.heap.size (ad Ds.out)).trans Ds.out)
     have dc := aa (bD.out.trans (cA.mono bD.out.size))
     clear oq cA
     have b0 := cell_of J0.out 0
     have b4 := cell_of J0.out 4
     have b5 := cell_of J0.out 5
     simp only [U7, U8, U9] at b0 b4 b5
     by_cases zt : j < x.al.length /\ m <= 200
     ·obtain ⟨au, hm⟩ := zt
      have bU : x.al ≠ [] := by intro e; rw [e] at au; simp at au
      obtain ⟨y, hy⟩ : ∃ y, x.al[j]? = some y := ⟨x.al[j], List.getElem?_eq_getElem au⟩
      obtain ⟨b, off, eo, -, ay, dF⟩ := (Q3.out.later dc.out (ap dc.out h).2.2) bU
      subst eo
      obtain ⟨cs, bK, hkey, hrd⟩ := dF j y hy
      obtain ⟨v0, v1, v2, v3, v4, v5, v6, v7, rfl⟩ := BD bK
      have q0 := hkey 0 v0 rfl
      have q1 := hkey 1 v1 rfl
      have q2 := hkey 2 v2 rfl
      have q3 := hkey 3 v3 rfl
      have q4 := hkey 4 v4 rfl
      have q5 := hkey 5 v5 rfl
      have q6 := hkey 6 v6 rfl
      have q7 := hkey 7 v7 rfl
      rw [Nat.add_zero] at q0
      have HY := aa hy
      have zu := aa hrd
      clear dF hy bU hkey bK hrd
      have fX : (j : Int) < x.al.length := by omega
      cases hab : dY y
      ·have wF := aa hab
       clear hab
       go_wp2_with fail
       refine (qP zu.out).mono ?_
       rintro e w2 ⟨rfl, hb⟩
       rw [wF.out]
       have me := aa (dc.out.trans (hb.mono dc.out.size))
       clear hb
       go_wp2
       go_ret
       refine ⟨1000, rfl, ?_, by omega, by omega, me.out⟩
       rw [vx.out, wx (f := fun a d => dY a && (bJ h).al a d) HY.out (by show (dY y && _) = false; rw [wF.out]; rfl)]
       simp only [Bool.false_and, Bool.and_false]
       exact Trk.bad (by omega)
      ·have wF := aa hab
       clear hab
       go_wp2_with fail
       refine (qP zu.out).mono ?_
       rintro e w2 ⟨rfl, hb⟩
       rw [wF.out]
       have me := aa hb
       have mh := aa ((hb.block w.heap.size (ad J0.out)).trans J0.out)
       have r2 : w2.cell? ⟨b, off + j * 8 + 2, none⟩ = some v2 := (hb.cell (p := ⟨b, off + j * 8 + 2, none⟩) ay).trans q2
       have r3 : w2.cell? ⟨b, off + j * 8 + 3, none⟩ = some v3 := (hb.cell (p := ⟨b, off + j * 8 + 3, none⟩) ay).trans q3
       have r4 : w2.cell? ⟨b, off + j * 8 + 4, none⟩ = some v4 := (hb.cell (p := ⟨b, off + j * 8 + 4, none⟩) ay).trans q4
       have r5 : w2.cell? ⟨b, off + j * 8 + 5, none⟩ = some v5 := (hb.cell (p := ⟨b, off + j * 8 + 5, none⟩) ay).trans q5
       have r6 : w2.cell? ⟨b, off + j * 8 + 6, none⟩ = some v6 := (hb.cell (p := ⟨b, off + j * 8 + 6, none⟩) ay).trans q6
       have r7 : w2.cell? ⟨b, off + j * 8 + 7, none⟩ = some v7 := (hb.cell (p := ⟨b, off + j * 8 + 7, none⟩) ay).trans q7
       have TX := cell_of mh.out 5
       simp only [U7, U8, U9] at TX
       have NA := aa ((ap hb h).2.2 _ _ zu.out)
       clear hb
       go_wp2_with fail
       refine (I3.out K y v0 v1 v2 v3 v4 v5 v6 v7 _ (d + 1) NA.out (by omega) (by omega)).mono ?_
       rintro e w3 ⟨r, rfl, hr, Cd, qI, hb⟩
       have ET := aa hr
       have tq := aa (me.out.trans (hb.mono me.out.size))
       clear hr hb
       go_wp2
       refine ⟨⟨j + 1, m + r, by omega, by go_num, by first | rfl | go_num, uM zp.out HY.out hm ?_, by omega, by omega, Mq.out.trans (tq.out.mono Mq.out.size)⟩, by simp [intOf]; omega⟩
       show Trk r (dY y && (bJ h).al y (d + 1)) ((aW h).al y)
       rw [wF.out, Bool.true_and]
       exact ET.out
     ·have Iz := aa (xv zp.out (fun _ => by omega))
      clear zp
      rcases (show ¬ ((j : Int) < x.al.length) \/ ((j : Int) < x.al.length /\ ¬ m <= 200) by omega) with hf | ⟨hf, DB⟩
      all_goals
       clear zt
       by_cases hk : x.k = 6
       ·have aL : (x.k == 6) = true := by simpa using hk
        have HK := aa hk
        clear hk
        by_cases hm : m <= 200
        ·first
         | (exact absurd hm DB)
         | (go_wp2_with fail
            refine (I2.out K x.ds o2 c2 _ 6 (d + 1) (Q2.out.later dc.out (ap dc.out h).2.1) HD.out.1 (by omega) (by omega) (by omega) (by omega)).mono ?_
            rintro e w3 ⟨r, rfl, hr, Cd, qI, hb⟩
            have ET := aa hr
            have tq := aa (dc.out.trans (hb.mono dc.out.size))
            clear hr hb
            go_wp2
            go_ret
            refine ⟨m + r, rfl, ?_, by omega, by omega, tq.out⟩
            have gF := Iz.out.add hm ET.out
            rw [vx.out, HH.out, zy.out]
            refine gF.pass ?_ rfl
            have e6 : decide (x.k ≠ 6) = false := by rw [HK.out]; rfl
            rw [e6]
            cases bW (bJ h).ex x.l (d + 1) <;> simp)
        ·go_wp2
         go_ret
         refine ⟨m, rfl, ?_, by omega, by omega, dc.out⟩
         have gF := Iz.out.stop (b := decide (x.k ≠ 6) || cL (bJ h).de x.ds 6 (d + 1)) (d := aB (aW h).de x.ds) (by omega)
         rw [vx.out, HH.out, zy.out]
         refine gF.pass ?_ rfl
         cases bW (bJ h).ex x.l (d + 1) <;> simp
       ·have aL : (x.k == 6) = false := by simpa using hk
        have HK := aa hk
        clear hk
        go_wp2
        go_ret
        refine ⟨m, rfl, ?_, by omega, by omega, dc.out⟩
        have jj : x.ds = [] := by
         have hh := HH.out
         unfold aH bw at hh
         simp only [Bool.and_eq_true, Bool.or_eq_true, decide_eq_true_eq] at hh
         rcases hh.1.1.1.2 with h6 | h6
         ·exact absurd h6 HK.out
         ·exact List.length_eq_zero_iff.1 h6
        have e6 : decide (x.k ≠ 6) = true := by simpa using HK.out
        rw [vx.out, HH.out, zy.out, e6, jj]
        refine Iz.out.pass ?_ ?_
        ·cases bW (bJ h).ex x.l (d + 1) <;> simp
        ·simp [aB]
theorem xm {xs : List Tr} {i : Nat} {y : Tr} (h : xs[i]? = some y) : td (xs.map Tr.s) i = y.s := su (by rw [List.getElem?_map, h]; rfl)
theorem tz {h : Nat} {e : Tr} {d : Int} (rZ : (bJ h).ex e d = true) : d <= 12 := by
 cases h with
 | zero => cases rZ
 | succ h =>
  have h1 : (decide (d <= 12) && _) = true := rZ
  rw [Bool.and_eq_true] at h1
  exact of_decide_eq_true h1.1
theorem vF {l : List ByteArray} {k : Nat} {z s : ByteArray} (hz : l[k]? = some z) (h0 : cn (l.take k) s = false) (h1 : (z.toList == s.toList) = false) : cn (l.take (k + 1)) s = false := by
 unfold cn at *
 rw [List.take_add_one, hz, List.any_append, h0]
 simpa using h1
theorem yv {l : List ByteArray} {k i : Nat} {z s : ByteArray} (hz : l[k]? = some z) (hk : k < i) (h1 : (z.toList == s.toList) = true) : cn (l.take i) s = true := by
 unfold cn
 rw [List.any_eq_true]
 refine ⟨z, ?_, h1⟩
 apply List.mem_of_getElem? (i := k)
 rw [List.getElem?_take, if_pos hk]
 exact hz
def fo (f : Tr -> Int -> Bool) (xs : List Tr) (d : Int) (i : Nat) : Bool := ju (xs.map Tr.s) i && bW f (xs.take i) d
theorem em {f : Tr -> Int -> Bool} {xs : List Tr} {d : Int} {i : Nat} {y : Tr} (hy : xs[i]? = some y) : fo f xs d (i + 1) = (fo f xs d i && (!cn ((xs.map Tr.s).take i) y.s && f y d)) := by
 unfold fo
 rw [nd f xs d i y hy]
 show ((ju (xs.map Tr.s) i && !cn ((xs.map Tr.s).take i) (td (xs.map Tr.s) i)) && _) = _
 rw [xm hy]
 cases ju (xs.map Tr.s) i <;> cases cn ((xs.map Tr.s).take i) y.s <;> simp
theorem gN {f : Tr -> Int -> Bool} {xs : List Tr} {d : Int} {i n : Nat} (h : fo f xs d i = false) (hi : i <= n) (hn : n <= xs.length) : fo f xs d n = false := by
 induction n with
 | zero => rw [show i = 0 by omega] at h; exact h
 | succ n ih =>
  by_cases e : i = n + 1
  ·rw [<- e]; exact h
  ·rw [em (List.getElem?_eq_getElem (by omega)), ih (by omega) (by omega)]
   rfl
theorem mI (f : Tr -> Int -> Bool) (xs : List Tr) (m d : Int) : cL f xs m d = (cz xs.length 1 m && fo f xs d xs.length) := by
 unfold cL fo vQ
 rw [List.take_length, List.length_map]
 cases bW f xs d <;> simp
theorem rl (n : Nat) (o : Option Addr) (c : Nat) (m d : Int) (w : World) (hl : n <= maxLen) (gA : cz n 1 m = false) : Calls Tryz.prog 64 #[.slice o n c, .int .i64 m, .int .i64 d] w fun e w' => e = .returned (.int .i64 1000) /\ w' = w := by
 have EX := aa gA
 have iT : n <= 9223372036854775807 := hl
 clear gA hl
 go_enter Tryz.func64, Tryz.ntmps64
 go_wp2_with fail
 refine (fR n 1 m _).mono ?_
 rintro e w1 ⟨rfl, rfl⟩
 rw [EX.out]
 go_wp2
 go_ret
 exact ⟨rfl, rfl⟩
theorem uR {h : Nat} (i1 : AK h) (i2 : D9 h) : D9 (h + 1) := by
 intro K xs o c w m d hm hl zv vu h0 h1
 have I1 := aa i1
 have I2 := aa i2
 have HM := aa hm
 have iT : xs.length <= 9223372036854775807 := hl
 have HL := aa hl
 clear i1 i2 hm hl
 cases gA : cz xs.length 1 m
 ·refine (rl xs.length o c m d w HL.out gA).mono ?_
  rintro e w1 ⟨rfl, rfl⟩
  refine ⟨1000, rfl, ?_, by omega, by omega, Below.refl _ _⟩
  unfold cL
  rw [gA]
  exact Trk.bad (by omega)
 have EX := aa gA
 clear gA
 go_enter Tryz.func64, Tryz.ntmps64
 go_wp2_with fail
 refine (fR xs.length 1 m _).mono ?_
 rintro e w1 ⟨rfl, CO⟩
 rw [EX.out, CO]
 clear CO w1
 go_wp2
 go_loopw [7, 8] (fun t7 t8 wr => ∃ (i : Nat) (n : Int), i <= xs.length /\ t8 = .int .i64 i /\ t7 = .int .i64 n /\ Trk n (fo (bJ (h + 1)).de xs d i) (aB (aW (h + 1)).de (xs.take i)) /\ 0 <= n /\ n <= 1000 + 201 * (14 - d) /\ Below w.heap.size w wr) (fun _ t8 _ => xs.length - (intOf t8).toNat)
 case atStart => exact ⟨0, 0, Nat.zero_le _, rfl, rfl, Or.inl ⟨rfl, by simp [aB], by simp [aB]⟩, by omega, by omega, Below.refl _ _⟩
 case round =>
  obtain ⟨i, n, hi, rfl, rfl, oq, EE, jn, cA⟩ := hrel
  have zp := aa oq
  have dH := aa cA
  clear oq cA
  by_cases zt : i < xs.length /\ n <= 200
  ·obtain ⟨au, hn⟩ := zt
   have bU : xs ≠ [] := by intro e; rw [e] at au; simp at au
   obtain ⟨y, hy⟩ : ∃ y, xs[i]? = some y := ⟨xs[i], List.getElem?_eq_getElem au⟩
   have cF := HM.out.later dH.out (ap dH.out (h + 1)).2.1
   obtain ⟨b, off, eo, -, ay, dF⟩ := cF bU
   subst eo
   have zk := aa dF
   obtain ⟨cs, bK, hkey, hrd⟩ := dF i y hy
   obtain ⟨-, -, -, e, p1, g1, ce, p2, g2, hye, rfl, hs, hf1, DB, rs, hce, re, rd⟩ := hrd
   obtain ⟨a0, a1, a2, a3, a4, a5, rfl⟩ := six hce
   have q0 := hkey 0 (.string y.s) rfl
   have q1 := hkey 1 (.slice p1 y.ss.length g1) rfl
   have q2 := hkey 2 a0 rfl
   have q3 := hkey 3 a1 rfl
   have q4 := hkey 4 a2 rfl
   have q5 := hkey 5 a3 rfl
   have q6 := hkey 6 a4 rfl
   have q7 := hkey 7 a5 rfl
   have q8 := hkey 8 (.slice p2 y.ds.length g2) rfl
   rw [Nat.add_zero] at q0
   have HY := aa hy
   have Qf := aa hye
   have Mc := aa hs
   have J5 := aa hf1
   have Ny := aa DB
   have RS := aa rs
   have RE := aa re
   have RD := aa rd
   have JV : y.ds.length <= 9223372036854775807 := DB.1
   have Rw : y.ss.length <= 9223372036854775807 := hf1.1
   clear dF hy bU hkey bK hye hs hf1 DB rs re rd hce cF
   have fX : (i : Int) < xs.length := by omega
   go_wp2
   go_loopw [9] (fun t9 wq => ∃ k : Nat, k <= i /\ t9 = .int .i64 k /\ cn ((xs.map Tr.s).take k) y.s = false /\ Below wr.heap.size wr wq) (fun t9 _ => i - (intOf t9).toNat)
   case atStart => exact ⟨0, Nat.zero_le _, rfl, rfl, Below.refl _ _⟩
   case round =>
    obtain ⟨k, hk, rfl, tt, hbq⟩ := hrel
    have vg := aa tt
    have Mq := aa hbq
    have bD := aa (dH.out.trans (hbq.mono dH.out.size))
    have p0 : wr.cell? ⟨b, off + i * 9, none⟩ = some (.string y.s) := (hbq.cell (p := ⟨b, off + i * 9, none⟩) ay).trans q0
    have Rx : wr.cell? ⟨b, off + i * 9 + 1, none⟩ = some (.slice p1 y.ss.length g1) := (hbq.cell (p := ⟨b, off + i * 9 + 1, none⟩) ay).trans q1
    clear tt
    by_cases KH : k < i
    ·obtain ⟨z, hz⟩ : ∃ z, xs[k]? = some z := ⟨xs[k]'(by omega), List.getElem?_eq_getElem _⟩
     obtain ⟨csz, -, hkz, hrz⟩ := zk.out k z hz
     obtain ⟨_, _, _, _, _, _, _, _, _, _, _, rfl⟩ := xy hrz
     have z0 := hkz 0 (.string z.s) rfl
     rw [Nat.add_zero] at z0
     have UQ : wr.cell? ⟨b, off + k * 9, none⟩ = some (.string z.s) := (hbq.cell (p := ⟨b, off + k * 9, none⟩) ay).trans z0
     have HZ : Hid ((xs.map Tr.s)[k]? = some z.s) := by show (xs.map Tr.s)[k]? = some z.s; rw [List.getElem?_map, hz]; rfl
     clear hrz hkz hz hbq z0 q0 q1 q2 q3 q4 q5 q6 q7 q8
     have Pb : (k : Int) < i := by omega
     have UG : (k : Int) < xs.length := by omega
     cases hzz : (z.s.toList == y.s.toList)
     ·go_wp2_with fail
      go_quiet (fail)
      go_wp2
      have Pf := hzz
      exact ⟨⟨k + 1, by omega, by go_num, vF HZ.out vg.out Pf, below_drewN Mq.out _⟩, by simp [intOf]; omega⟩
     ·go_wp2_with fail
      go_quiet (fail)
      go_wp2
      go_ret
      refine ⟨1000, rfl, ?_, by omega, by omega, below_drewN bD.out _⟩
      have hf : fo (bJ (h + 1)).de xs d (i + 1) = false := by
       rw [em HY.out, yv HZ.out KH hzz]
       simp
      rw [mI, gN hf au U0, Bool.and_false]
      exact Trk.bad (by omega)
    ·have PN : k = i := by omega
     have Od : Hid (cn ((xs.map Tr.s).take i) y.s = false) := by
      have h2 := vg.out
      rw [PN] at h2
      exact h2
     have TL : wr.cell? ⟨b, off + i * 9 + 2, none⟩ = some a0 := (hbq.cell (p := ⟨b, off + i * 9 + 2, none⟩) ay).trans q2
     have Pb : ¬ (k : Int) < i := by omega
     clear PN TL
     cases vr : mf y.s
     ·have CY : Hid (fF y.s.data.toList = false) := vr
      have sX := aa vr
      clear vr
      clear q0 q1 q2 q3 q4 q5 q6 q7 q8 hbq
      go_wp2_with fail
      refine (cv _ _ Mc.out).mono ?_
      rintro e w2 ⟨rfl, hb⟩
      rw [CY.out]
      have dc := aa (bD.out.trans (hb.mono bD.out.size))
      clear hb
      go_wp2
      go_ret
      refine ⟨1000, rfl, ?_, by omega, by omega, dc.out⟩
      have hf : fo (bJ (h + 1)).de xs d (i + 1) = false := by
       rw [em HY.out]
       have : (bJ (h + 1)).de y d = false := by
        show ((mf y.s && _) && _) = false
        rw [sX.out]
        rfl
       rw [this]
       simp
      rw [mI, gN hf au U0, Bool.and_false]
      exact Trk.bad (by omega)
     have CY : Hid (fF y.s.data.toList = true) := vr
     have sX := aa vr
     clear vr
     cases hva : eG y.ss
     all_goals
      have EY := aa hva
      clear hva
      go_wp2_with fail
      refine (cv _ _ Mc.out).mono ?_
      rintro e w2 ⟨rfl, hb⟩
      rw [CY.out]
      have cm := hbq.trans (hb.mono hbq.size)
      have r1 : w2.cell? ⟨b, off + i * 9 + 1, none⟩ = some (.slice p1 y.ss.length g1) := (cm.cell (p := ⟨b, off + i * 9 + 1, none⟩) ay).trans q1
      have dc := aa cm
      clear hb cm
      go_wp2_with fail
      refine (pV y.ss p1 g1 _ J5.out.1 J5.out.2 (RS.out.later dc.out fun _ _ h => h)).mono ?_
      rintro e w3 ⟨rfl, hb⟩
      rw [EY.out]
      have sT := dc.out.trans (hb.mono dc.out.size)
      have me := aa sT
      have Pk := aa (dH.out.trans (sT.mono dH.out.size))
      clear hb
     ·go_wp2
      go_ret
      refine ⟨1000, rfl, ?_, by omega, by omega, Pk.out⟩
      have hf : fo (bJ (h + 1)).de xs d (i + 1) = false := by
       rw [em HY.out]
       have : (bJ (h + 1)).de y d = false := by
        show ((mf y.s && eG y.ss) && _) = false
        rw [EY.out]
        simp
       rw [this]
       simp
      rw [mI, gN hf au U0, Bool.and_false]
      exact Trk.bad (by omega)
     ·have s2 : w3.cell? ⟨b, off + i * 9 + 2, none⟩ = some a0 := (sT.cell (p := ⟨b, off + i * 9 + 2, none⟩) ay).trans q2
      have s3 : w3.cell? ⟨b, off + i * 9 + 3, none⟩ = some a1 := (sT.cell (p := ⟨b, off + i * 9 + 3, none⟩) ay).trans q3
      have s4 : w3.cell? ⟨b, off + i * 9 + 4, none⟩ = some a2 := (sT.cell (p := ⟨b, off + i * 9 + 4, none⟩) ay).trans q4
      have s5 : w3.cell? ⟨b, off + i * 9 + 5, none⟩ = some a3 := (sT.cell (p := ⟨b, off + i * 9 + 5, none⟩) ay).trans q5
      have s6 : w3.cell? ⟨b, off + i * 9 + 6, none⟩ = some a4 := (sT.cell (p := ⟨b, off + i * 9 + 6, none⟩) ay).trans q6
      have s7 : w3.cell? ⟨b, off + i * 9 + 7, none⟩ = some a5 := (sT.cell (p := ⟨b, off + i * 9 + 7, none⟩) ay).trans q7
      clear sT
      go_wp2_with fail
      refine (I1.out K e _ _ (d + 1) ((ap me.out h).1 _ _ RE.out) (by omega) (by omega)).mono ?_
      rintro _ w4 ⟨r, rfl, hr, Cd, qI, hb⟩
      have uZ := me.out.trans (hb.mono me.out.size)
      have t8 : w4.cell? ⟨b, off + i * 9 + 8, none⟩ = some (.slice p2 y.ds.length g2) := (uZ.cell (p := ⟨b, off + i * 9 + 8, none⟩) ay).trans q8
      have ET := aa hr
      have tq := aa uZ
      have EI := aa (dH.out.trans (uZ.mono dH.out.size))
      have IT : Hid ((bJ (h + 1)).de y d = ((bJ h).ex e (d + 1) && (decide (y.ds.length = 0) || cL (bJ h).de y.ds 6 (d + 1)))) := by
       show ((mf y.s && eG y.ss) && (bW (bJ h).ex y.l (d + 1) && _)) = _
       rw [sX.out, EY.out, Qf.out]
       simp [bW]
      have Id : Hid ((aW (h + 1)).de y = (aW h).ex e + aB (aW h).de y.ds) := by
       show aB (aW h).ex y.l + _ = _
       rw [Qf.out]
       simp [aB]
      clear hr hb uZ q0 q1 q2 q3 q4 q5 q6 q7 q8 s2 s3 s4 s5 s6 s7 r1 hbq p0 Rx
      by_cases jj : y.ds.length = 0
      ·have IR : decide (0 < y.ds.length) = false := decide_eq_false (by omega)
       have CX := aa jj
       clear jj
       go_wp2
       refine ⟨⟨i + 1, n + r, by omega, by go_num, by first | rfl | go_num, ?_, by omega, by omega, EI.out⟩, by simp [intOf]; omega⟩
       have gF := zp.out.add hn ET.out
       rw [em HY.out, fc _ _ _ _ HY.out, Od.out, IT.out, Id.out, CX.out]
       refine gF.pass (by simp) ?_
       rw [List.length_eq_zero_iff.1 CX.out]
       simp [aB]
      ·have IR : decide (0 < y.ds.length) = true := decide_eq_true (by omega)
       have CX := aa jj
       clear jj
       by_cases qF : n + r <= 200
       ·have gF := zp.out.add hn ET.out
        have rZ := (gF.of_le qF).1
        rw [Bool.and_eq_true] at rZ
        have rX := tz rZ.2
        have Uz := aa gF
        clear gF rZ
        go_wp2_with fail
        refine (I2.out K y.ds p2 g2 _ 6 (d + 1) (RD.out.later tq.out (ap tq.out h).2.1) Ny.out.1 (by omega) (by omega) (by omega) (by omega)).mono ?_
        rintro _ w5 ⟨r2, rfl, Du, hr20, hr21, hb⟩
        have Pc := aa Du
        have OS := aa (EI.out.trans (hb.mono EI.out.size))
        clear Du hb
        go_wp2
        refine ⟨⟨i + 1, n + r + r2, by omega, by go_num, by first | rfl | go_num, ?_, by omega, by omega, OS.out⟩, by simp [intOf]; omega⟩
        have gF := Uz.out.add qF Pc.out
        rw [em HY.out, fc _ _ _ _ HY.out, Od.out, IT.out, Id.out, decide_eq_false CX.out]
        refine gF.pass ?_ (by omega)
        cases fo (bJ (h + 1)).de xs d i <;> simp
       ·go_wp2
        refine ⟨⟨i + 1, n + r, by omega, by go_num, by first | rfl | go_num, ?_, by omega, by omega, EI.out⟩, by simp [intOf]; omega⟩
        have gF := (zp.out.add hn ET.out).stop (b := cL (bJ h).de y.ds 6 (d + 1)) (d := aB (aW h).de y.ds) (by omega)
        rw [em HY.out, fc _ _ _ _ HY.out, Od.out, IT.out, Id.out, decide_eq_false CX.out]
        refine gF.pass ?_ (by omega)
        cases fo (bJ (h + 1)).de xs d i <;> simp
  ·have HT : Hid (Trk n (cL (bJ (h + 1)).de xs m d) (aB (aW (h + 1)).de xs)) := by
    show Trk n (cL (bJ (h + 1)).de xs m d) (aB (aW (h + 1)).de xs)
    rw [mI, EX.out, Bool.true_and]
    by_cases hl : i < xs.length
    ·have Oo : 200 < n := by omega
     refine Or.inr ⟨Oo, fun hc => ?_⟩
     have ht := zp.out
     rcases ht with ⟨e1, e2, e3⟩ | ⟨e1, e2⟩
     ·omega
     ·apply e2
      refine ⟨?_, ?_⟩
      ·cases hd : fo (bJ (h + 1)).de xs d i with
       | true => rfl
       | false => rw [gN hd (by omega) U0] at hc; cases hc.1
      ·have := lW (aW (h + 1)).de xs i
       omega
    ·have R4 : i = xs.length := by omega
     have ht := zp.out
     rw [R4, List.take_length] at ht
     exact ht
   rcases (show ¬ ((i : Int) < xs.length) \/ ((i : Int) < xs.length /\ ¬ n <= 200) by omega) with he | ⟨he, Jx⟩
   all_goals
    clear zt
    go_wp2
    go_ret
    exact ⟨n, rfl, HT.out, EE, jn, dH.out⟩
theorem GD (h : Nat) : AK h /\ D9 h /\ FV h := by
 induction h with
 | zero =>
  refine ⟨fun _ _ _ _ _ hr => hr.elim, ?_, fun _ _ _ _ _ _ _ _ _ _ _ _ hr => hr.elim⟩
  intro K xs o c w m d hm hl zv vu h0 h1
  have B7 : xs = [] := by
   cases xs with
   | nil => rfl
   | cons x r =>
    obtain ⟨_, _, _, _, _, hc⟩ := hm (by simp)
    obtain ⟨_, _, _, hf⟩ := hc 0 x rfl
    exact hf.elim
  subst B7
  have gA : cz (([] : List Tr).length : Int) 1 m = false := lU (by decide)
  refine (rl 0 o c m d w (Nat.zero_le _) gA).mono ?_
  rintro e w1 ⟨rfl, rfl⟩
  refine ⟨1000, rfl, ?_, by omega, by omega, Below.refl _ _⟩
  unfold cL
  rw [gA]
  exact Trk.bad (by omega)
 | succ h ih => exact ⟨sH ih.1 ih.2.1 ih.2.2, uR ih.1 ih.2.1, xQ ih.1⟩
theorem qu {K : Nat -> Prop} {w : World} {h : Nat} {x : Tr} {cs : List Value} (hr : (reads K w h).ex x cs) :
 Calls Tryz.prog 43 #[.agg cs.toArray] w fun e w' => e = .returned (.bool ((bJ h).ex x 1 && decide ((aW h).ex x <= 200))) /\ Below w.heap.size w w' := by
 obtain ⟨o1, c1, o2, c2, o3, c3, rfl⟩ := cY hr
 have HR := aa hr
 clear hr
 have aq : Hid (Below w.heap.size w (w.alloc (.cells #[.int .i64 x.k, .string x.s, .int .i64 x.n, .slice o1 x.l.length c1, .slice o2 x.ds.length c2, .slice o3 x.al.length c3] 34))) := (U4 w).alloc U0 _
 go_enter Tryz.func43, Tryz.ntmps43
 go_wp2_with fail
 refine ((GD h).1 K x _ _ 1 ((ap aq.out h).1 _ _ HR.out) (by omega) (by omega)).mono ?_
 rintro e w1 ⟨r, rfl, hr, -, -, hb⟩
 have HT := aa hr
 have aR := aa (aq.out.trans (hb.mono aq.out.size))
 clear hr hb
 go_wp2
 go_ret
 refine ⟨ah ?_, aR.out⟩
 rcases HT.out with ⟨h1, h2, h3⟩ | ⟨h1, h2⟩
 ·rw [h1, decide_eq_true (show (aW h).ex x <= 200 from h2), decide_eq_true (by omega)]
  rfl
 ·rw [decide_eq_false (by omega)]
  symm
  rw [Bool.and_eq_false_iff]
  cases rZ : (bJ h).ex x 1 with
  | false => exact Or.inl rfl
  | true => exact Or.inr (decide_eq_false fun hc => h2 ⟨rZ, hc⟩)
end Go.Proofs.YtfomndilhlgikajGreatDoor
