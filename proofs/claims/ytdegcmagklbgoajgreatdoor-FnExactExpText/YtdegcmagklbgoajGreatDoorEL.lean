/- The program's writing of an expression out of its form. -/
import Derived.Test.YtdegcmagklbgoajGreatDoorYIa
import Derived.Test.YtdegcmagklbgoajGreatDoorYIb
import Derived.Test.YtdegcmagklbgoajGreatDoorYIc
import Derived.Test.YtdegcmagklbgoajGreatDoorYId
import Derived.Test.YtdegcmagklbgoajGreatDoorGK
namespace Go.Proofs.YtdegcmagklbgoajGreatDoor
open Go.ChangeShapes Go.WideShapes Go.ChangeAt Go.RowKit
set_option linter.unusedVariables false
set_option linter.unusedSimpArgs false

structure FormW (h B : Nat) (x : Tr) (d : Int) (w : World) (v : Value) : Prop where
  tight : ∀ w', Calls Tryz.prog 220 #[v] w' fun e w'' => e = .returned (.int .i64 (levB x : Nat)) ∧ Below w'.heap.size w' w''
  write : ∀ (w' : World) (b : Nat) (l : List UInt8) (n : Nat), Stays (LtK B) w w' → Pg B b l w' → Tb B w' → (n : Int) ≤ 60 + 4 * d → l.length + ((txt (h + 1)).ex x n).length ≤ 10000000 → Calls Tryz.prog 111 #[.pointer (some ⟨b, 0, none⟩), v, .int .i64 n] w' (Wr B b l ((txt (h + 1)).ex x n) w')
theorem outl_yes {s t : ByteArray} {n m : Int} {u1 v1 u2 v2 u3 v3 : Nat} (h1 : s = t) (h2 : n = m) (h3 : u1 = v1) (h4 : u2 = v2) (h5 : u3 = v3) : outl s t n m u1 v1 u2 v2 u3 v3 = true := by
  subst h1 h2 h3 h4 h5
  unfold outl
  simp
theorem lev_of {x : Tr} : (x.k = 1 ∨ x.k = 2 ∨ x.k = 3 → levB x = 5) ∧ (x.k = 4 → levB x = 4) ∧ (x.k = 9 → levB x = opLev x.s) ∧ (x.k = 5 ∨ x.k = 6 ∨ x.k = 7 ∨ x.k = 8 → levB x = 0) := by
  unfold levB
  refine ⟨fun h => by rw [if_pos h], fun h => ?_, fun h => ?_, fun h => ?_⟩
  · rw [if_neg (by omega), if_pos h]
  · rw [if_neg (by omega), if_neg (by omega), if_pos h]
  · rw [if_neg (by omega), if_neg (by omega), if_neg (by omega)]
set_option maxHeartbeats 1000000 in
theorem formW_1 {h : Nat} (hE : PxEx h) (hP : PxPa h) (hD : PxDs h) (hA : PxAs h) {B : Nat} {t : Tr} {cs : List Value} {w : World} {d : Int} (hr : (reads (LtK B) w (h + 1)).ex t cs) (hok : (okz (h + 1)).ex t d = true) (hc : (cnt (h + 1)).ex t ≤ 200) (hk : t.k = 1) (hn0 : t.n = 0) (hl : t.l = []) (hds : t.ds = []) (hal : t.al = []) :
    Calls Tryz.prog 112 #[.agg cs.toArray] w fun e w' => ∃ v, e = .returned v ∧ FormW h B t d w v ∧ Below w.heap.size w w' := by
  have O := (ok_of hok).1
  have hdeep := O.deep
  obtain ⟨-, o1, c1, o2, c2, o3, c3, rfl, hsz, f1, f2, f3, r1, r2, r3⟩ := hr
  show Calls Tryz.prog 112 #[.agg #[.int .i64 t.k, .string t.s, .int .i64 t.n, .slice o1 t.l.length c1, .slice o2 t.ds.length c2, .slice o3 t.al.length c3]] w _
  rw [hk]
  refine (form1_yes t.s t.n o1 _ c1 o2 _ c2 o3 _ c3 w (outl_yes rfl hn0.symm (by rw [hl]; rfl) (by rw [hds]; rfl) (by rw [hal]; rfl))).mono ?_
  rintro e w1 ⟨rfl, hb⟩
  refine ⟨_, rfl, ⟨fun w' => by rw [lev_of.1 (.inl hk)]; exact tight_1 t.s w', fun w' b l n hst hpg htb hn hlen => ?_⟩, hb⟩
  rw [txt_k1 (.inl hk)] at hlen ⊢
  exact pform_1 hE hP hD hA t.s w' B b l n d hpg htb hn hdeep hlen
set_option maxHeartbeats 1000000 in
theorem formW_2 {h : Nat} (hE : PxEx h) (hP : PxPa h) (hD : PxDs h) (hA : PxAs h) {B : Nat} {t : Tr} {cs : List Value} {w : World} {d : Int} (hr : (reads (LtK B) w (h + 1)).ex t cs) (hok : (okz (h + 1)).ex t d = true) (hc : (cnt (h + 1)).ex t ≤ 200) (hk : t.k = 2) (hn0 : t.n = 0) (hl : t.l = []) (hds : t.ds = []) (hal : t.al = []) :
    Calls Tryz.prog 112 #[.agg cs.toArray] w fun e w' => ∃ v, e = .returned v ∧ FormW h B t d w v ∧ Below w.heap.size w w' := by
  have O := (ok_of hok).1
  have hdeep := O.deep
  obtain ⟨-, o1, c1, o2, c2, o3, c3, rfl, hsz, f1, f2, f3, r1, r2, r3⟩ := hr
  show Calls Tryz.prog 112 #[.agg #[.int .i64 t.k, .string t.s, .int .i64 t.n, .slice o1 t.l.length c1, .slice o2 t.ds.length c2, .slice o3 t.al.length c3]] w _
  rw [hk]
  refine (form2_yes t.s t.n o1 _ c1 o2 _ c2 o3 _ c3 w (outl_yes rfl hn0.symm (by rw [hl]; rfl) (by rw [hds]; rfl) (by rw [hal]; rfl))).mono ?_
  rintro e w1 ⟨rfl, hb⟩
  refine ⟨_, rfl, ⟨fun w' => by rw [lev_of.1 (.inr (.inl hk))]; exact tight_2 t.s w', fun w' b l n hst hpg htb hn hlen => ?_⟩, hb⟩
  rw [txt_k1 (.inr hk)] at hlen ⊢
  exact pform_2 hE hP hD hA t.s w' B b l n d hpg htb hn hdeep hlen
set_option maxHeartbeats 1000000 in
theorem formW_3 {h : Nat} (hE : PxEx h) (hP : PxPa h) (hD : PxDs h) (hA : PxAs h) {B : Nat} {t : Tr} {cs : List Value} {w : World} {d : Int} (hr : (reads (LtK B) w (h + 1)).ex t cs) (hok : (okz (h + 1)).ex t d = true) (hc : (cnt (h + 1)).ex t ≤ 200) (hk : t.k = 3) (h0 : 0 ≤ t.n) (h1 : t.n ≤ 999999) (hs : t.s = ⟨#[]⟩) (hl : t.l = []) (hds : t.ds = []) (hal : t.al = []) :
    Calls Tryz.prog 112 #[.agg cs.toArray] w fun e w' => ∃ v, e = .returned v ∧ FormW h B t d w v ∧ Below w.heap.size w w' := by
  have O := (ok_of hok).1
  have hdeep := O.deep
  obtain ⟨-, o1, c1, o2, c2, o3, c3, rfl, hsz, f1, f2, f3, r1, r2, r3⟩ := hr
  show Calls Tryz.prog 112 #[.agg #[.int .i64 t.k, .string t.s, .int .i64 t.n, .slice o1 t.l.length c1, .slice o2 t.ds.length c2, .slice o3 t.al.length c3]] w _
  rw [hk]
  refine (form3_yes t.s t.n o1 _ c1 o2 _ c2 o3 _ c3 w (outl_yes hs.symm rfl (by rw [hl]; rfl) (by rw [hds]; rfl) (by rw [hal]; rfl))).mono ?_
  rintro e w1 ⟨rfl, hb⟩
  refine ⟨_, rfl, ⟨fun w' => by rw [lev_of.1 (.inr (.inr hk))]; exact tight_3 t.n w', fun w' b l n hst hpg htb hn hlen => ?_⟩, hb⟩
  rw [txt_k3 hk] at hlen ⊢
  exact pform_3 hE hP hD hA t.n w' B b l n d hpg htb hn hdeep h0 h1 hlen
set_option maxHeartbeats 1000000 in
theorem formW_4 {h : Nat} (hE : PxEx h) (hP : PxPa h) (hD : PxDs h) (hA : PxAs h) {B : Nat} {t x y : Tr} {cs : List Value} {w : World} {d : Int} (hr : (reads (LtK B) w (h + 1)).ex t cs) (hok : (okz (h + 1)).ex t d = true) (hc : (cnt (h + 1)).ex t ≤ 200) (hk : t.k = 4) (hs : t.s = ⟨#[]⟩) (hn0 : t.n = 0) (hl : t.l = [x, y]) (hds : t.ds = []) (hal : t.al = []) :
    Calls Tryz.prog 112 #[.agg cs.toArray] w fun e w' => ∃ v, e = .returned v ∧ FormW h B t d w v ∧ Below w.heap.size w w' := by
  have O := (ok_of hok).1
  have hdeep := O.deep
  obtain ⟨-, o1, c1, o2, c2, o3, c3, rfl, hsz, f1, f2, f3, r1, r2, r3⟩ := hr
  have hll : t.l.length = 2 := by rw [hl]; rfl
  have hcn : (cnt (h + 1)).ex t = 1 + sumZ (cnt h).ex t.l + sumZ (cnt h).al t.al + sumZ (cnt h).de t.ds := rfl
  have hsum : (cnt h).ex x + (cnt h).ex y ≤ sumZ (cnt h).ex t.l := by rw [hl]; simp [sumZ]
  have xok := O.parts x (by rw [hl]; simp)
  have yok := O.parts y (by rw [hl]; simp)
  rw [hl] at r1
  obtain ⟨bb, off, rfl, -, hbl, hcs⟩ := r1 (by simp)
  obtain ⟨_, -, xk, xr⟩ := hcs 0 x rfl
  obtain ⟨xo1, xg1, xo2, xg2, xo3, xg3, rfl⟩ := ex_form xr
  have xq0 := xk 0 _ rfl
  have xq1 := xk 1 _ rfl
  have xq2 := xk 2 _ rfl
  have xq3 := xk 3 _ rfl
  have xq4 := xk 4 _ rfl
  have xq5 := xk 5 _ rfl
  simp only [Nat.zero_mul, Nat.one_mul, Nat.reduceMul, Nat.add_zero, Nat.zero_add] at xq0 xq1 xq2 xq3 xq4 xq5
  obtain ⟨_, -, yk, yr⟩ := hcs 1 y rfl
  obtain ⟨yo1, yg1, yo2, yg2, yo3, yg3, rfl⟩ := ex_form yr
  have yq0 := yk 0 _ rfl
  have yq1 := yk 1 _ rfl
  have yq2 := yk 2 _ rfl
  have yq3 := yk 3 _ rfl
  have yq4 := yk 4 _ rfl
  have yq5 := yk 5 _ rfl
  simp only [Nat.zero_mul, Nat.one_mul, Nat.reduceMul, Nat.add_zero, Nat.zero_add] at yq0 yq1 yq2 yq3 yq4 yq5
  show Calls Tryz.prog 112 #[.agg #[.int .i64 t.k, .string t.s, .int .i64 t.n, .slice (some ⟨bb, off, none⟩) t.l.length c1, .slice o2 t.ds.length c2, .slice o3 t.al.length c3]] w _
  rw [hk, hll]
  refine (form4_yes t.s t.n bb off c1 o2 _ c2 o3 _ c3 (.int .i64 x.k) (.string x.s) (.int .i64 x.n) (.slice xo1 x.l.length xg1) (.slice xo2 x.ds.length xg2) (.slice xo3 x.al.length xg3) (.int .i64 y.k) (.string y.s) (.int .i64 y.n) (.slice yo1 y.l.length yg1) (.slice yo2 y.ds.length yg2) (.slice yo3 y.al.length yg3) w xq0 xq1 xq2 xq3 xq4 xq5 yq0 yq1 yq2 yq3 yq4 yq5 (outl_yes hs.symm hn0.symm rfl (by rw [hds]; rfl) (by rw [hal]; rfl))).mono ?_
  rintro e w1 ⟨rfl, hb⟩
  refine ⟨_, rfl, ⟨fun w' => by rw [lev_of.2.1 hk]; exact tight_4 x xo1 xo2 xo3 xg1 xg2 xg3 y yo1 yo2 yo3 yg1 yg2 yg3 w', fun w' b l n hst hpg htb hn hlen => ?_⟩, hb⟩
  rw [txt_k4 hk hl] at hlen ⊢
  exact pform_4 hE hP hD hA x xo1 xo2 xo3 xg1 xg2 xg3 y yo1 yo2 yo3 yg1 yg2 yg3 w' B b l n d hpg htb hn hdeep ((reads_frame hst (fun _ h => h) h).1 _ _ xr) xok (by omega) ((reads_frame hst (fun _ h => h) h).1 _ _ yr) yok (by omega) hlen
set_option maxHeartbeats 1000000 in
theorem formW_5 {h : Nat} (hE : PxEx h) (hP : PxPa h) (hD : PxDs h) (hA : PxAs h) {B : Nat} {t x : Tr} {cs : List Value} {w : World} {d : Int} (hr : (reads (LtK B) w (h + 1)).ex t cs) (hok : (okz (h + 1)).ex t d = true) (hc : (cnt (h + 1)).ex t ≤ 200) (hk : t.k = 5) (hn0 : t.n = 0) (hl : t.l = [x]) (hds : t.ds = []) (hal : t.al = []) :
    Calls Tryz.prog 112 #[.agg cs.toArray] w fun e w' => ∃ v, e = .returned v ∧ FormW h B t d w v ∧ Below w.heap.size w w' := by
  have O := (ok_of hok).1
  have hdeep := O.deep
  obtain ⟨-, o1, c1, o2, c2, o3, c3, rfl, hsz, f1, f2, f3, r1, r2, r3⟩ := hr
  have hll : t.l.length = 1 := by rw [hl]; rfl
  have hcn : (cnt (h + 1)).ex t = 1 + sumZ (cnt h).ex t.l + sumZ (cnt h).al t.al + sumZ (cnt h).de t.ds := rfl
  have hsum : (cnt h).ex x ≤ sumZ (cnt h).ex t.l := by rw [hl]; simp [sumZ]
  have xok := O.parts x (by rw [hl]; simp)
  rw [hl] at r1
  obtain ⟨bb, off, rfl, -, hbl, hcs⟩ := r1 (by simp)
  obtain ⟨_, -, xk, xr⟩ := hcs 0 x rfl
  obtain ⟨xo1, xg1, xo2, xg2, xo3, xg3, rfl⟩ := ex_form xr
  have xq0 := xk 0 _ rfl
  have xq1 := xk 1 _ rfl
  have xq2 := xk 2 _ rfl
  have xq3 := xk 3 _ rfl
  have xq4 := xk 4 _ rfl
  have xq5 := xk 5 _ rfl
  simp only [Nat.zero_mul, Nat.one_mul, Nat.reduceMul, Nat.add_zero, Nat.zero_add] at xq0 xq1 xq2 xq3 xq4 xq5
  show Calls Tryz.prog 112 #[.agg #[.int .i64 t.k, .string t.s, .int .i64 t.n, .slice (some ⟨bb, off, none⟩) t.l.length c1, .slice o2 t.ds.length c2, .slice o3 t.al.length c3]] w _
  rw [hk, hll]
  refine (form5_yes t.s t.n bb off c1 o2 _ c2 o3 _ c3 (.int .i64 x.k) (.string x.s) (.int .i64 x.n) (.slice xo1 x.l.length xg1) (.slice xo2 x.ds.length xg2) (.slice xo3 x.al.length xg3) w xq0 xq1 xq2 xq3 xq4 xq5 (outl_yes rfl hn0.symm rfl (by rw [hds]; rfl) (by rw [hal]; rfl))).mono ?_
  rintro e w1 ⟨rfl, hb⟩
  refine ⟨_, rfl, ⟨fun w' => by rw [lev_of.2.2.2 (.inl hk)]; exact tight_5 t.s x xo1 xo2 xo3 xg1 xg2 xg3 w', fun w' b l n hst hpg htb hn hlen => ?_⟩, hb⟩
  rw [txt_k5 hk hl] at hlen ⊢
  exact pform_5 hE hP hD hA t.s x xo1 xo2 xo3 xg1 xg2 xg3 w' B b l n d hpg htb hn hdeep ((reads_frame hst (fun _ h => h) h).1 _ _ xr) xok (by omega) hlen
set_option maxHeartbeats 1000000 in
theorem formW_6 {h : Nat} (hE : PxEx h) (hP : PxPa h) (hD : PxDs h) (hA : PxAs h) {B : Nat} {t x : Tr} {cs : List Value} {w : World} {d : Int} (hr : (reads (LtK B) w (h + 1)).ex t cs) (hok : (okz (h + 1)).ex t d = true) (hc : (cnt (h + 1)).ex t ≤ 200) (hk : t.k = 6) (hs : t.s = ⟨#[]⟩) (hn0 : t.n = 0) (hl : t.l = [x]) (hal : t.al = []) (hd12 : d + 1 ≤ 12) (hdo : ∀ y, y ∈ t.ds → (okz h).de y (d + 1) = true) :
    Calls Tryz.prog 112 #[.agg cs.toArray] w fun e w' => ∃ v, e = .returned v ∧ FormW h B t d w v ∧ Below w.heap.size w w' := by
  have O := (ok_of hok).1
  have hdeep := O.deep
  obtain ⟨-, o1, c1, o2, c2, o3, c3, rfl, hsz, f1, f2, f3, r1, r2, r3⟩ := hr
  have hll : t.l.length = 1 := by rw [hl]; rfl
  have hcn : (cnt (h + 1)).ex t = 1 + sumZ (cnt h).ex t.l + sumZ (cnt h).al t.al + sumZ (cnt h).de t.ds := rfl
  have hsum : (cnt h).ex x ≤ sumZ (cnt h).ex t.l := by rw [hl]; simp [sumZ]
  have xok := O.parts x (by rw [hl]; simp)
  rw [hl] at r1
  obtain ⟨bb, off, rfl, -, hbl, hcs⟩ := r1 (by simp)
  obtain ⟨_, -, xk, xr⟩ := hcs 0 x rfl
  obtain ⟨xo1, xg1, xo2, xg2, xo3, xg3, rfl⟩ := ex_form xr
  have xq0 := xk 0 _ rfl
  have xq1 := xk 1 _ rfl
  have xq2 := xk 2 _ rfl
  have xq3 := xk 3 _ rfl
  have xq4 := xk 4 _ rfl
  have xq5 := xk 5 _ rfl
  simp only [Nat.zero_mul, Nat.one_mul, Nat.reduceMul, Nat.add_zero, Nat.zero_add] at xq0 xq1 xq2 xq3 xq4 xq5
  show Calls Tryz.prog 112 #[.agg #[.int .i64 t.k, .string t.s, .int .i64 t.n, .slice (some ⟨bb, off, none⟩) t.l.length c1, .slice o2 t.ds.length c2, .slice o3 t.al.length c3]] w _
  rw [hk, hll]
  refine (form6_yes t.s t.n bb off c1 o2 _ c2 o3 _ c3 (.int .i64 x.k) (.string x.s) (.int .i64 x.n) (.slice xo1 x.l.length xg1) (.slice xo2 x.ds.length xg2) (.slice xo3 x.al.length xg3) w xq0 xq1 xq2 xq3 xq4 xq5 (outl_yes hs.symm hn0.symm rfl rfl (by rw [hal]; rfl))).mono ?_
  rintro e w1 ⟨rfl, hb⟩
  refine ⟨_, rfl, ⟨fun w' => by rw [lev_of.2.2.2 (.inr (.inl hk))]; exact tight_6 t.ds o2 c2 x xo1 xo2 xo3 xg1 xg2 xg3 w', fun w' b l n hst hpg htb hn hlen => ?_⟩, hb⟩
  rw [txt_k6 hk hl] at hlen ⊢
  exact pform_6 hE hP hD hA t.ds o2 c2 x xo1 xo2 xo3 xg1 xg2 xg3 w' B b l n d hpg htb hn hdeep ((reads_frame hst (fun _ h => h) h).1 _ _ xr) xok (by omega) (r2.frame hst (fun _ h => h) (reads_frame hst (fun _ h => h) h).2.1) f2.1 hdo hd12 (by omega) hlen
set_option maxHeartbeats 1000000 in
theorem formW_7 {h : Nat} (hE : PxEx h) (hP : PxPa h) (hD : PxDs h) (hA : PxAs h) {B : Nat} {t x : Tr} {cs : List Value} {w : World} {d : Int} (hr : (reads (LtK B) w (h + 1)).ex t cs) (hok : (okz (h + 1)).ex t d = true) (hc : (cnt (h + 1)).ex t ≤ 200) (hk : t.k = 7) (hs : t.s = ⟨#[]⟩) (hn0 : t.n = 0) (hl : t.l = [x]) (hds : t.ds = []) (hal1 : 1 ≤ t.al.length) :
    Calls Tryz.prog 112 #[.agg cs.toArray] w fun e w' => ∃ v, e = .returned v ∧ FormW h B t d w v ∧ Below w.heap.size w w' := by
  have O := (ok_of hok).1
  have hdeep := O.deep
  obtain ⟨-, o1, c1, o2, c2, o3, c3, rfl, hsz, f1, f2, f3, r1, r2, r3⟩ := hr
  have hll : t.l.length = 1 := by rw [hl]; rfl
  have hcn : (cnt (h + 1)).ex t = 1 + sumZ (cnt h).ex t.l + sumZ (cnt h).al t.al + sumZ (cnt h).de t.ds := rfl
  have hsum : (cnt h).ex x ≤ sumZ (cnt h).ex t.l := by rw [hl]; simp [sumZ]
  have xok := O.parts x (by rw [hl]; simp)
  rw [hl] at r1
  obtain ⟨bb, off, rfl, -, hbl, hcs⟩ := r1 (by simp)
  obtain ⟨_, -, xk, xr⟩ := hcs 0 x rfl
  obtain ⟨xo1, xg1, xo2, xg2, xo3, xg3, rfl⟩ := ex_form xr
  have xq0 := xk 0 _ rfl
  have xq1 := xk 1 _ rfl
  have xq2 := xk 2 _ rfl
  have xq3 := xk 3 _ rfl
  have xq4 := xk 4 _ rfl
  have xq5 := xk 5 _ rfl
  simp only [Nat.zero_mul, Nat.one_mul, Nat.reduceMul, Nat.add_zero, Nat.zero_add] at xq0 xq1 xq2 xq3 xq4 xq5
  show Calls Tryz.prog 112 #[.agg #[.int .i64 t.k, .string t.s, .int .i64 t.n, .slice (some ⟨bb, off, none⟩) t.l.length c1, .slice o2 t.ds.length c2, .slice o3 t.al.length c3]] w _
  rw [hk, hll]
  refine (form7_yes t.s t.n bb off c1 o2 _ c2 o3 _ c3 (.int .i64 x.k) (.string x.s) (.int .i64 x.n) (.slice xo1 x.l.length xg1) (.slice xo2 x.ds.length xg2) (.slice xo3 x.al.length xg3) w xq0 xq1 xq2 xq3 xq4 xq5 (outl_yes hs.symm hn0.symm rfl (by rw [hds]; rfl) rfl)).mono ?_
  rintro e w1 ⟨rfl, hb⟩
  refine ⟨_, rfl, ⟨fun w' => by rw [lev_of.2.2.2 (.inr (.inr (.inl hk)))]; exact tight_7 t.al o3 c3 x xo1 xo2 xo3 xg1 xg2 xg3 w', fun w' b l n hst hpg htb hn hlen => ?_⟩, hb⟩
  rw [txt_k7 hk hl] at hlen ⊢
  exact pform_7 hE hP hD hA t.al o3 c3 x xo1 xo2 xo3 xg1 xg2 xg3 w' B b l n d hpg htb hn hdeep ((reads_frame hst (fun _ h => h) h).1 _ _ xr) xok (by omega) (r3.frame hst (fun _ h => h) (reads_frame hst (fun _ h => h) h).2.2) f3.1 hal1 O.alts (by omega) hlen
set_option maxHeartbeats 1000000 in
theorem formW_8 {h : Nat} (hE : PxEx h) (hP : PxPa h) (hD : PxDs h) (hA : PxAs h) {B : Nat} {t x y z : Tr} {cs : List Value} {w : World} {d : Int} (hr : (reads (LtK B) w (h + 1)).ex t cs) (hok : (okz (h + 1)).ex t d = true) (hc : (cnt (h + 1)).ex t ≤ 200) (hk : t.k = 8) (hs : t.s = ⟨#[]⟩) (hn0 : t.n = 0) (hl : t.l = [x, y, z]) (hds : t.ds = []) (hal : t.al = []) :
    Calls Tryz.prog 112 #[.agg cs.toArray] w fun e w' => ∃ v, e = .returned v ∧ FormW h B t d w v ∧ Below w.heap.size w w' := by
  have O := (ok_of hok).1
  have hdeep := O.deep
  obtain ⟨-, o1, c1, o2, c2, o3, c3, rfl, hsz, f1, f2, f3, r1, r2, r3⟩ := hr
  have hll : t.l.length = 3 := by rw [hl]; rfl
  have hcn : (cnt (h + 1)).ex t = 1 + sumZ (cnt h).ex t.l + sumZ (cnt h).al t.al + sumZ (cnt h).de t.ds := rfl
  have hsum : (cnt h).ex x + (cnt h).ex y + (cnt h).ex z ≤ sumZ (cnt h).ex t.l := by rw [hl]; simp [sumZ]; omega
  have xok := O.parts x (by rw [hl]; simp)
  have yok := O.parts y (by rw [hl]; simp)
  have zok := O.parts z (by rw [hl]; simp)
  rw [hl] at r1
  obtain ⟨bb, off, rfl, -, hbl, hcs⟩ := r1 (by simp)
  obtain ⟨_, -, xk, xr⟩ := hcs 0 x rfl
  obtain ⟨xo1, xg1, xo2, xg2, xo3, xg3, rfl⟩ := ex_form xr
  have xq0 := xk 0 _ rfl
  have xq1 := xk 1 _ rfl
  have xq2 := xk 2 _ rfl
  have xq3 := xk 3 _ rfl
  have xq4 := xk 4 _ rfl
  have xq5 := xk 5 _ rfl
  simp only [Nat.zero_mul, Nat.one_mul, Nat.reduceMul, Nat.add_zero, Nat.zero_add] at xq0 xq1 xq2 xq3 xq4 xq5
  obtain ⟨_, -, yk, yr⟩ := hcs 1 y rfl
  obtain ⟨yo1, yg1, yo2, yg2, yo3, yg3, rfl⟩ := ex_form yr
  have yq0 := yk 0 _ rfl
  have yq1 := yk 1 _ rfl
  have yq2 := yk 2 _ rfl
  have yq3 := yk 3 _ rfl
  have yq4 := yk 4 _ rfl
  have yq5 := yk 5 _ rfl
  simp only [Nat.zero_mul, Nat.one_mul, Nat.reduceMul, Nat.add_zero, Nat.zero_add] at yq0 yq1 yq2 yq3 yq4 yq5
  obtain ⟨_, -, zk, zr⟩ := hcs 2 z rfl
  obtain ⟨zo1, zg1, zo2, zg2, zo3, zg3, rfl⟩ := ex_form zr
  have zq0 := zk 0 _ rfl
  have zq1 := zk 1 _ rfl
  have zq2 := zk 2 _ rfl
  have zq3 := zk 3 _ rfl
  have zq4 := zk 4 _ rfl
  have zq5 := zk 5 _ rfl
  simp only [Nat.zero_mul, Nat.one_mul, Nat.reduceMul, Nat.add_zero, Nat.zero_add] at zq0 zq1 zq2 zq3 zq4 zq5
  show Calls Tryz.prog 112 #[.agg #[.int .i64 t.k, .string t.s, .int .i64 t.n, .slice (some ⟨bb, off, none⟩) t.l.length c1, .slice o2 t.ds.length c2, .slice o3 t.al.length c3]] w _
  rw [hk, hll]
  refine (form8_yes t.s t.n bb off c1 o2 _ c2 o3 _ c3 (.int .i64 x.k) (.string x.s) (.int .i64 x.n) (.slice xo1 x.l.length xg1) (.slice xo2 x.ds.length xg2) (.slice xo3 x.al.length xg3) (.int .i64 y.k) (.string y.s) (.int .i64 y.n) (.slice yo1 y.l.length yg1) (.slice yo2 y.ds.length yg2) (.slice yo3 y.al.length yg3) (.int .i64 z.k) (.string z.s) (.int .i64 z.n) (.slice zo1 z.l.length zg1) (.slice zo2 z.ds.length zg2) (.slice zo3 z.al.length zg3) w xq0 xq1 xq2 xq3 xq4 xq5 yq0 yq1 yq2 yq3 yq4 yq5 zq0 zq1 zq2 zq3 zq4 zq5 (outl_yes hs.symm hn0.symm rfl (by rw [hds]; rfl) (by rw [hal]; rfl))).mono ?_
  rintro e w1 ⟨rfl, hb⟩
  refine ⟨_, rfl, ⟨fun w' => by rw [lev_of.2.2.2 (.inr (.inr (.inr hk)))]; exact tight_8 x xo1 xo2 xo3 xg1 xg2 xg3 y yo1 yo2 yo3 yg1 yg2 yg3 z zo1 zo2 zo3 zg1 zg2 zg3 w', fun w' b l n hst hpg htb hn hlen => ?_⟩, hb⟩
  rw [txt_k8 hk hl] at hlen ⊢
  exact pform_8 hE hP hD hA x xo1 xo2 xo3 xg1 xg2 xg3 y yo1 yo2 yo3 yg1 yg2 yg3 z zo1 zo2 zo3 zg1 zg2 zg3 w' B b l n d hpg htb hn hdeep ((reads_frame hst (fun _ h => h) h).1 _ _ xr) xok (by omega) ((reads_frame hst (fun _ h => h) h).1 _ _ yr) yok (by omega) ((reads_frame hst (fun _ h => h) h).1 _ _ zr) zok (by omega) hlen
set_option maxHeartbeats 1000000 in
theorem formW_9 {h : Nat} (hE : PxEx h) (hP : PxPa h) (hD : PxDs h) (hA : PxAs h) {B : Nat} {t x y : Tr} {cs : List Value} {w : World} {d : Int} (hr : (reads (LtK B) w (h + 1)).ex t cs) (hok : (okz (h + 1)).ex t d = true) (hc : (cnt (h + 1)).ex t ≤ 200) (hk : t.k = 9) (hs2 : t.s.size ≤ 2) (hn0 : t.n = 0) (hl : t.l = [x, y]) (hds : t.ds = []) (hal : t.al = []) :
    Calls Tryz.prog 112 #[.agg cs.toArray] w fun e w' => ∃ v, e = .returned v ∧ FormW h B t d w v ∧ Below w.heap.size w w' := by
  have O := (ok_of hok).1
  have hdeep := O.deep
  obtain ⟨-, o1, c1, o2, c2, o3, c3, rfl, hsz, f1, f2, f3, r1, r2, r3⟩ := hr
  have hll : t.l.length = 2 := by rw [hl]; rfl
  have hcn : (cnt (h + 1)).ex t = 1 + sumZ (cnt h).ex t.l + sumZ (cnt h).al t.al + sumZ (cnt h).de t.ds := rfl
  have hsum : (cnt h).ex x + (cnt h).ex y ≤ sumZ (cnt h).ex t.l := by rw [hl]; simp [sumZ]
  have xok := O.parts x (by rw [hl]; simp)
  have yok := O.parts y (by rw [hl]; simp)
  rw [hl] at r1
  obtain ⟨bb, off, rfl, -, hbl, hcs⟩ := r1 (by simp)
  obtain ⟨_, -, xk, xr⟩ := hcs 0 x rfl
  obtain ⟨xo1, xg1, xo2, xg2, xo3, xg3, rfl⟩ := ex_form xr
  have xq0 := xk 0 _ rfl
  have xq1 := xk 1 _ rfl
  have xq2 := xk 2 _ rfl
  have xq3 := xk 3 _ rfl
  have xq4 := xk 4 _ rfl
  have xq5 := xk 5 _ rfl
  simp only [Nat.zero_mul, Nat.one_mul, Nat.reduceMul, Nat.add_zero, Nat.zero_add] at xq0 xq1 xq2 xq3 xq4 xq5
  obtain ⟨_, -, yk, yr⟩ := hcs 1 y rfl
  obtain ⟨yo1, yg1, yo2, yg2, yo3, yg3, rfl⟩ := ex_form yr
  have yq0 := yk 0 _ rfl
  have yq1 := yk 1 _ rfl
  have yq2 := yk 2 _ rfl
  have yq3 := yk 3 _ rfl
  have yq4 := yk 4 _ rfl
  have yq5 := yk 5 _ rfl
  simp only [Nat.zero_mul, Nat.one_mul, Nat.reduceMul, Nat.add_zero, Nat.zero_add] at yq0 yq1 yq2 yq3 yq4 yq5
  show Calls Tryz.prog 112 #[.agg #[.int .i64 t.k, .string t.s, .int .i64 t.n, .slice (some ⟨bb, off, none⟩) t.l.length c1, .slice o2 t.ds.length c2, .slice o3 t.al.length c3]] w _
  rw [hk, hll]
  refine (form9_yes t.s t.n bb off c1 o2 _ c2 o3 _ c3 (.int .i64 x.k) (.string x.s) (.int .i64 x.n) (.slice xo1 x.l.length xg1) (.slice xo2 x.ds.length xg2) (.slice xo3 x.al.length xg3) (.int .i64 y.k) (.string y.s) (.int .i64 y.n) (.slice yo1 y.l.length yg1) (.slice yo2 y.ds.length yg2) (.slice yo3 y.al.length yg3) w xq0 xq1 xq2 xq3 xq4 xq5 yq0 yq1 yq2 yq3 yq4 yq5 (outl_yes rfl hn0.symm rfl (by rw [hds]; rfl) (by rw [hal]; rfl))).mono ?_
  rintro e w1 ⟨rfl, hb⟩
  refine ⟨_, rfl, ⟨fun w' => by rw [lev_of.2.2.1 hk]; exact tight_9 t.s x xo1 xo2 xo3 xg1 xg2 xg3 y yo1 yo2 yo3 yg1 yg2 yg3 w', fun w' b l n hst hpg htb hn hlen => ?_⟩, hb⟩
  rw [txt_k9 hk hl] at hlen ⊢
  exact pform_9 hE hP hD hA t.s x xo1 xo2 xo3 xg1 xg2 xg3 y yo1 yo2 yo3 yg1 yg2 yg3 w' B b l n d hpg htb hn hdeep ((reads_frame hst (fun _ h => h) h).1 _ _ xr) xok (by omega) ((reads_frame hst (fun _ h => h) h).1 _ _ yr) yok (by omega) hs2 hlen
theorem dec_deep {K : Nat → Prop} {w : World} {h : Nat} {x : Tr} {cs : List Value} {d : Int} (hr : (reads K w h).de x cs) (hok : (okz h).de x d = true) : d ≤ 11 := by
  cases h with
  | zero => exact hr.elim
  | succ h =>
    obtain ⟨-, -, hb, -⟩ := okd_of hok
    obtain ⟨-, -, -, e, o1, c1, ce, o2, c2, hl, -⟩ := hr
    have := okz_12 (hb e (by rw [hl]; simp))
    omega
theorem formW_any {h : Nat} (hE : PxEx h) (hP : PxPa h) (hD : PxDs h) (hA : PxAs h) {B : Nat} {x : Tr} {cs : List Value} {w : World} {d : Int} (hr : (reads (LtK B) w (h + 1)).ex x cs) (hok : (okz (h + 1)).ex x d = true) (hc : (cnt (h + 1)).ex x ≤ 200) :
    Calls Tryz.prog 112 #[.agg cs.toArray] w fun e w' => ∃ v, e = .returned v ∧ FormW h B x d w v ∧ Below w.heap.size w w' := by
  obtain ⟨O, hh, hd6⟩ := ok_of hok
  rcases ok_kinds hh with ⟨k, -, hn, hl, hds, hal⟩ | ⟨k, -, hn, hl, hds, hal⟩ | ⟨k, h0, h1, hs, hl, hds, hal⟩ | ⟨k, hs, hn, ⟨a, b, hl⟩, hds, hal⟩ | ⟨k, -, hn, ⟨a, hl⟩, hds, hal⟩ | ⟨k, hs, hn, ⟨a, hl⟩, hal⟩ | ⟨k, hs, hn, ⟨a, hl⟩, hds, hal⟩ | ⟨k, hs, hn, ⟨a, b, c, hl⟩, hds, hal⟩ | ⟨k, hs, hn, ⟨a, b, hl⟩, hds, hal⟩
  · exact formW_1 hE hP hD hA hr hok hc k hn hl hds hal
  · exact formW_2 hE hP hD hA hr hok hc k hn hl hds hal
  · exact formW_3 hE hP hD hA hr hok hc k h0 h1 hs hl hds hal
  · exact formW_4 hE hP hD hA hr hok hc k hs hn hl hds hal
  · exact formW_5 hE hP hD hA hr hok hc k hn hl hds hal
  · obtain ⟨hd1, hdo⟩ := decs_of (hd6.resolve_left fun hc => hc k)
    refine formW_6 hE hP hD hA hr hok hc k hs hn hl hal ?_ hdo
    obtain ⟨-, o1, c1, o2, c2, o3, c3, -, -, -, -, -, -, r2, -⟩ := hr
    obtain ⟨y, hy⟩ : ∃ y, y ∈ x.ds := by
      cases hds : x.ds with
      | nil => rw [hds] at hd1; simp at hd1
      | cons y r => exact ⟨y, by simp⟩
    obtain ⟨cs, hc⟩ := row_mem r2 hy
    have := dec_deep hc (hdo y hy)
    omega
  · refine formW_7 hE hP hD hA hr hok hc k hs hn hl hds ?_
    unfold inB at hal
    simp at hal
    omega
  · exact formW_8 hE hP hD hA hr hok hc k hs hn hl hds hal
  · exact formW_9 hE hP hD hA hr hok hc k (op_size hs) hn hl hds hal
set_option maxHeartbeats 1000000 in
set_option maxRecDepth 100000 in
theorem pexp_step {h : Nat} (hE : PxEx h) (hP : PxPa h) (hD : PxDs h) (hA : PxAs h) : PxEx (h + 1) := by
  intro x cs w B b l n d hr hok hpg htb hn hc hlen
  obtain ⟨o1, c1, o2, c2, o3, c3, rfl⟩ := ex_form hr
  have HB0 : Hid (Below w.heap.size w (w.alloc (.cells #[.int .i64 x.k, .string x.s, .int .i64 x.n, .slice o1 x.l.length c1, .slice o2 x.ds.length c2, .slice o3 x.al.length c3] 34))) := (Below.refl _ w).alloc (Nat.le_refl _) _
  have CALL := hide (formW_any hE hP hD hA ((reads_later HB0.out (h + 1)).1 _ _ hr) hok hc)
  have PG := hide hpg
  have TB := hide htb
  clear hr hok hE hP hD hA hpg htb
  go_enter Tryz.func61, Tryz.ntmps61
  go_wp2_with fail
  refine CALL.out.mono ?_
  rintro e w1 ⟨v, rfl, hw, hb⟩
  have HW := hide hw
  have HB1 := hide (HB0.out.trans (hb.mono HB0.out.size))
  have HS1 := hide (Stays.of (K := LtK B) hb)
  clear hw hb CALL
  go_wp2_with fail
  refine (HW.out.write w1 b l n HS1.out (PG.out.later HB1.out) (TB.out.on (HB1.out.mono PG.out.2)) hn hlen).mono ?_
  rintro e w2 ⟨rfl, h2, f2⟩
  have H2 := hide h2
  have F2 := hide ((Fr.of HB1.out PG.out.2).trans f2)
  clear h2 f2
  go_wp2
  go_end0
  exact ⟨rfl, H2.out, F2.out⟩
set_option maxHeartbeats 1000000 in
set_option maxRecDepth 100000 in
theorem ppart_step {h : Nat} (hE : PxEx h) (hP : PxPa h) (hD : PxDs h) (hA : PxAs h) : PxPa (h + 1) := by
  intro x cs w B b l n d lv hr hok hpg htb hn hc hlen hlv
  obtain ⟨o1, c1, o2, c2, o3, c3, rfl⟩ := ex_form hr
  have HB0 : Hid (Below w.heap.size w (w.alloc (.cells #[.int .i64 x.k, .string x.s, .int .i64 x.n, .slice o1 x.l.length c1, .slice o2 x.ds.length c2, .slice o3 x.al.length c3] 34))) := (Below.refl _ w).alloc (Nat.le_refl _) _
  have CALL := hide (formW_any hE hP hD hA ((reads_later HB0.out (h + 1)).1 _ _ hr) hok hc)
  have PG := hide hpg
  have TB := hide htb
  have hat : atL (txt (h + 1)).ex x lv n = brL (decide (levB x < lv)) ((txt (h + 1)).ex x n) := rfl
  clear hr hok hE hP hD hA hpg htb
  go_enter Tryz.func155, Tryz.ntmps155
  go_wp2_with fail
  refine CALL.out.mono ?_
  rintro e w1 ⟨v, rfl, hw, hb⟩
  have HW := hide hw
  have HB1 := hide (HB0.out.trans (hb.mono HB0.out.size))
  have HS1 := hide (Stays.of (K := LtK B) hb)
  clear hw hb CALL
  go_wp2_with fail
  refine (HW.out.tight w1).mono ?_
  rintro e w2 ⟨rfl, hb⟩
  have HB2 := hide (HB1.out.trans (hb.mono HB1.out.size))
  have HS2 := hide (HS1.out.trans (Stays.of (K := LtK B) hb))
  have P2 := hide (PG.out.later HB2.out)
  have F2 := hide (Fr.of (b := b) HB2.out PG.out.2)
  clear hb
  by_cases hlt : levB x < lv
  · have hge : ¬ ((lv : Nat) : Int) ≤ (levB x : Nat) := by omega
    have hlt2 : ((levB x : Nat) : Int) < (lv : Nat) := by omega
    rw [hat, decide_eq_true hlt] at hlen
    have hlen2 : l.length + ((txt (h + 1)).ex x n).length + 2 ≤ 10000000 := by
      have : (brL true ((txt (h + 1)).ex x n)).length = ((txt (h + 1)).ex x n).length + 2 := by simp [brL]
      omega
    have HAT : Hid (atL (txt (h + 1)).ex x lv n = 40 :: ((txt (h + 1)).ex x n ++ [41])) := by
      show atL (txt (h + 1)).ex x lv n = _
      rw [hat, decide_eq_true hlt]
      rfl
    clear hat hlen
    go_wp2_with fail
    refine (put1 B b l ⟨#[40]⟩ w2 P2.out (by show l.length + 1 ≤ _; omega)).mono ?_
    rintro e w3 ⟨rfl, h3, f3⟩
    have P3 := hide h3
    have F3 := hide (F2.out.trans f3)
    have HS3 := hide (HS2.out.trans f3.stays)
    clear h3 f3
    go_wp2_with fail
    refine (HW.out.write w3 b _ n HS3.out P3.out (TB.out.on F3.out.below) hn (by rw [List.length_append]; show l.length + 1 + _ ≤ _; omega)).mono ?_
    rintro e w4 ⟨rfl, h4, f4⟩
    have P4 := hide h4
    have F4 := hide (F3.out.trans f4)
    clear h4 f4
    go_wp2_with fail
    refine (put1 B b _ ⟨#[41]⟩ w4 P4.out (by rw [List.length_append, List.length_append]; show l.length + 1 + _ + 1 ≤ _; omega)).mono ?_
    rintro e w5 ⟨rfl, h5, f5⟩
    have P5 := hide h5
    have F5 := hide (F4.out.trans f5)
    clear h5 f5
    go_wp2
    go_end0
    refine ⟨rfl, ?_, F5.out⟩
    rw [HAT.out]
    have key := P5.out
    have hE : l ++ bl ⟨#[40]⟩ ++ (txt (h + 1)).ex x n ++ bl ⟨#[41]⟩ = l ++ (40 :: ((txt (h + 1)).ex x n ++ [41])) := by simp only [bl_mk, List.append_assoc, List.cons_append, List.nil_append]
    rw [hE] at key
    exact key
  · have hge : ((lv : Nat) : Int) ≤ (levB x : Nat) := by omega
    rw [hat, decide_eq_false hlt] at hlen
    have HAT : Hid (atL (txt (h + 1)).ex x lv n = (txt (h + 1)).ex x n) := by
      show atL (txt (h + 1)).ex x lv n = _
      rw [hat, decide_eq_false hlt]
      rfl
    clear hat
    go_wp2_with fail
    refine (HW.out.write w2 b _ n HS2.out P2.out (TB.out.on F2.out.below) hn hlen).mono ?_
    rintro e w4 ⟨rfl, h4, f4⟩
    have P4 := hide h4
    have F4 := hide (F2.out.trans f4)
    clear h4 f4
    go_wp2
    go_end0
    refine ⟨rfl, ?_, F4.out⟩
    rw [HAT.out]
    exact P4.out
end Go.Proofs.YtdegcmagklbgoajGreatDoor
