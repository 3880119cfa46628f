/- Made of EL, EM, EN. -/
import Derived.Test.YteoghpefilghdakGreatDoorYIa
import Derived.Test.YteoghpefilghdakGreatDoorYIb
import Derived.Test.YteoghpefilghdakGreatDoorYIc
import Derived.Test.YteoghpefilghdakGreatDoorYId
import Derived.Test.YteoghpefilghdakGreatDoorGK
import Derived.Test.YteoghpefilghdakGreatDoorEF
import Derived.Test.YteoghpefilghdakGreatDoorYP
namespace Go.Proofs.YteoghpefilghdakGreatDoor
open Go.ChangeShapes Go.WideShapes Go.ChangeAt Go.RowKit
set_option linter.unusedVariables false
set_option linter.unusedSimpArgs false

structure FormW (h B : Nat) (x : Tr) (d : Int) (w : World) (v : Value) : Prop where
  tight : ∀ w', Calls Tryz.prog 133 #[v] w' fun e w'' => e = .returned (.int .i64 (levB x : Nat)) ∧ Below w'.heap.size w' w''
  write : ∀ (w' : World) (b : Nat) (l : List UInt8) (n : Nat), Stays (LtK B) w w' → Pg B b l w' → Tb B w' → (n : Int) ≤ 60 + 4 * d → l.length + ((txt (h + 1)).ex x n).length ≤ 10000000 → Calls Tryz.prog 68 #[.pointer (some ⟨b, 0, none⟩), v, .int .i64 n] w' (Wr B b l ((txt (h + 1)).ex x n) w')
theorem outl_yes {s t : ByteArray} {n m : Int} {u1 v1 u2 v2 u3 v3 : Nat} (h1 : s = t) (h2 : n = m) (h3 : u1 = v1) (h4 : u2 = v2) (h5 : u3 = v3) : outl s t n m u1 v1 u2 v2 u3 v3 = true := by
  subst h1 h2 h3 h4 h5
  unfold outl
  simp
theorem lev_of {x : Tr} : (x.k = 1 ∨ x.k = 2 ∨ x.k = 3 → levB x = 5) ∧ (x.k = 4 → levB x = 4) ∧ (x.k = 9 → levB x = opLev x.s) ∧ (x.k = 5 ∨ x.k = 6 ∨ x.k = 7 ∨ x.k = 8 → levB x = 0) := by
  unfold levB
  refine ⟨fun h => by rw [if_pos h], fun h => ?_, fun h => ?_, fun h => ?_⟩
  · rw [if_neg (by omega), if_pos h]
  · rw [if_neg (by omega), if_neg (by omega), if_pos h]
  · rw [if_neg (by omega), if_neg (by omega), if_neg (by omega)]
set_option maxHeartbeats 1000000 in
theorem formW_1 {h : Nat} (hE : PxEx h) (hP : PxPa h) (hD : PxDs h) (hA : PxAs h) {B : Nat} {t : Tr} {cs : List Value} {w : World} {d : Int} (hr : (reads (LtK B) w (h + 1)).ex t cs) (hok : (okz (h + 1)).ex t d = true) (hc : (cnt (h + 1)).ex t ≤ 200) (hk : t.k = 1) (hn0 : t.n = 0) (hl : t.l = []) (hds : t.ds = []) (hal : t.al = []) :
    Calls Tryz.prog 69 #[.agg cs.toArray] w fun e w' => ∃ v, e = .returned v ∧ FormW h B t d w v ∧ Below w.heap.size w w' := by
  have O := (ok_of hok).1
  have hdeep := O.deep
  obtain ⟨-, o1, c1, o2, c2, o3, c3, rfl, hsz, f1, f2, f3, r1, r2, r3⟩ := hr
  show Calls Tryz.prog 69 #[.agg #[.int .i64 t.k, .string t.s, .int .i64 t.n, .slice o1 t.l.length c1, .slice o2 t.ds.length c2, .slice o3 t.al.length c3]] w _
  rw [hk]
  refine (form1_yes t.s t.n o1 _ c1 o2 _ c2 o3 _ c3 w (outl_yes rfl hn0.symm (by rw [hl]; rfl) (by rw [hds]; rfl) (by rw [hal]; rfl))).mono ?_
  rintro e w1 ⟨rfl, hb⟩
  refine ⟨_, rfl, ⟨fun w' => by rw [lev_of.1 (.inl hk)]; exact tight_1 t.s w', fun w' b l n hst hpg htb hn hlen => ?_⟩, hb⟩
  rw [txt_k1 (.inl hk)] at hlen ⊢
  exact pform_1 hE hP hD hA t.s w' B b l n d hpg htb hn hdeep hlen
set_option maxHeartbeats 1000000 in
theorem formW_2 {h : Nat} (hE : PxEx h) (hP : PxPa h) (hD : PxDs h) (hA : PxAs h) {B : Nat} {t : Tr} {cs : List Value} {w : World} {d : Int} (hr : (reads (LtK B) w (h + 1)).ex t cs) (hok : (okz (h + 1)).ex t d = true) (hc : (cnt (h + 1)).ex t ≤ 200) (hk : t.k = 2) (hn0 : t.n = 0) (hl : t.l = []) (hds : t.ds = []) (hal : t.al = []) :
    Calls Tryz.prog 69 #[.agg cs.toArray] w fun e w' => ∃ v, e = .returned v ∧ FormW h B t d w v ∧ Below w.heap.size w w' := by
  have O := (ok_of hok).1
  have hdeep := O.deep
  obtain ⟨-, o1, c1, o2, c2, o3, c3, rfl, hsz, f1, f2, f3, r1, r2, r3⟩ := hr
  show Calls Tryz.prog 69 #[.agg #[.int .i64 t.k, .string t.s, .int .i64 t.n, .slice o1 t.l.length c1, .slice o2 t.ds.length c2, .slice o3 t.al.length c3]] w _
  rw [hk]
  refine (form2_yes t.s t.n o1 _ c1 o2 _ c2 o3 _ c3 w (outl_yes rfl hn0.symm (by rw [hl]; rfl) (by rw [hds]; rfl) (by rw [hal]; rfl))).mono ?_
  rintro e w1 ⟨rfl, hb⟩
  refine ⟨_, rfl, ⟨fun w' => by rw [lev_of.1 (.inr (.inl hk))]; exact tight_2 t.s w', fun w' b l n hst hpg htb hn hlen => ?_⟩, hb⟩
  rw [txt_k1 (.inr hk)] at hlen ⊢
  exact pform_2 hE hP hD hA t.s w' B b l n d hpg htb hn hdeep hlen
set_option maxHeartbeats 1000000 in
theorem formW_3 {h : Nat} (hE : PxEx h) (hP : PxPa h) (hD : PxDs h) (hA : PxAs h) {B : Nat} {t : Tr} {cs : List Value} {w : World} {d : Int} (hr : (reads (LtK B) w (h + 1)).ex t cs) (hok : (okz (h + 1)).ex t d = true) (hc : (cnt (h + 1)).ex t ≤ 200) (hk : t.k = 3) (h0 : 0 ≤ t.n) (h1 : t.n ≤ 999999) (hs : t.s = ⟨#[]⟩) (hl : t.l = []) (hds : t.ds = []) (hal : t.al = []) :
    Calls Tryz.prog 69 #[.agg cs.toArray] w fun e w' => ∃ v, e = .returned v ∧ FormW h B t d w v ∧ Below w.heap.size w w' := by
  have O := (ok_of hok).1
  have hdeep := O.deep
  obtain ⟨-, o1, c1, o2, c2, o3, c3, rfl, hsz, f1, f2, f3, r1, r2, r3⟩ := hr
  show Calls Tryz.prog 69 #[.agg #[.int .i64 t.k, .string t.s, .int .i64 t.n, .slice o1 t.l.length c1, .slice o2 t.ds.length c2, .slice o3 t.al.length c3]] w _
  rw [hk]
  refine (form3_yes t.s t.n o1 _ c1 o2 _ c2 o3 _ c3 w (outl_yes hs.symm rfl (by rw [hl]; rfl) (by rw [hds]; rfl) (by rw [hal]; rfl))).mono ?_
  rintro e w1 ⟨rfl, hb⟩
  refine ⟨_, rfl, ⟨fun w' => by rw [lev_of.1 (.inr (.inr hk))]; exact tight_3 t.n w', fun w' b l n hst hpg htb hn hlen => ?_⟩, hb⟩
  rw [txt_k3 hk] at hlen ⊢
  exact pform_3 hE hP hD hA t.n w' B b l n d hpg htb hn hdeep h0 h1 hlen
set_option maxHeartbeats 1000000 in
theorem formW_4 {h : Nat} (hE : PxEx h) (hP : PxPa h) (hD : PxDs h) (hA : PxAs h) {B : Nat} {t x y : Tr} {cs : List Value} {w : World} {d : Int} (hr : (reads (LtK B) w (h + 1)).ex t cs) (hok : (okz (h + 1)).ex t d = true) (hc : (cnt (h + 1)).ex t ≤ 200) (hk : t.k = 4) (hs : t.s = ⟨#[]⟩) (hn0 : t.n = 0) (hl : t.l = [x, y]) (hds : t.ds = []) (hal : t.al = []) :
    Calls Tryz.prog 69 #[.agg cs.toArray] w fun e w' => ∃ v, e = .returned v ∧ FormW h B t d w v ∧ Below w.heap.size w w' := by
  have O := (ok_of hok).1
  have hdeep := O.deep
  obtain ⟨-, o1, c1, o2, c2, o3, c3, rfl, hsz, f1, f2, f3, r1, r2, r3⟩ := hr
  have hll : t.l.length = 2 := by rw [hl]; rfl
  have hcn : (cnt (h + 1)).ex t = 1 + sumZ (cnt h).ex t.l + sumZ (cnt h).al t.al + sumZ (cnt h).de t.ds := rfl
  have hsum : (cnt h).ex x + (cnt h).ex y ≤ sumZ (cnt h).ex t.l := by rw [hl]; simp [sumZ]
  have xok := O.parts x (by rw [hl]; simp)
  have yok := O.parts y (by rw [hl]; simp)
  rw [hl] at r1
  obtain ⟨bb, off, rfl, -, hbl, hcs⟩ := r1 (by simp)
  obtain ⟨_, -, xk, xr⟩ := hcs 0 x rfl
  obtain ⟨xo1, xg1, xo2, xg2, xo3, xg3, rfl⟩ := ex_form xr
  have xq0 := xk 0 _ rfl
  have xq1 := xk 1 _ rfl
  have xq2 := xk 2 _ rfl
  have xq3 := xk 3 _ rfl
  have xq4 := xk 4 _ rfl
  have xq5 := xk 5 _ rfl
  simp only [Nat.zero_mul, Nat.one_mul, Nat.reduceMul, Nat.add_zero, Nat.zero_add] at xq0 xq1 xq2 xq3 xq4 xq5
  obtain ⟨_, -, yk, yr⟩ := hcs 1 y rfl
  obtain ⟨yo1, yg1, yo2, yg2, yo3, yg3, rfl⟩ := ex_form yr
  have yq0 := yk 0 _ rfl
  have yq1 := yk 1 _ rfl
  have yq2 := yk 2 _ rfl
  have yq3 := yk 3 _ rfl
  have yq4 := yk 4 _ rfl
  have yq5 := yk 5 _ rfl
  simp only [Nat.zero_mul, Nat.one_mul, Nat.reduceMul, Nat.add_zero, Nat.zero_add] at yq0 yq1 yq2 yq3 yq4 yq5
  show Calls Tryz.prog 69 #[.agg #[.int .i64 t.k, .string t.s, .int .i64 t.n, .slice (some ⟨bb, off, none⟩) t.l.length c1, .slice o2 t.ds.length c2, .slice o3 t.al.length c3]] w _
  rw [hk, hll]
  refine (form4_yes t.s t.n bb off c1 o2 _ c2 o3 _ c3 (.int .i64 x.k) (.string x.s) (.int .i64 x.n) (.slice xo1 x.l.length xg1) (.slice xo2 x.ds.length xg2) (.slice xo3 x.al.length xg3) (.int .i64 y.k) (.string y.s) (.int .i64 y.n) (.slice yo1 y.l.length yg1) (.slice yo2 y.ds.length yg2) (.slice yo3 y.al.length yg3) w xq0 xq1 xq2 xq3 xq4 xq5 yq0 yq1 yq2 yq3 yq4 yq5 (outl_yes hs.symm hn0.symm rfl (by rw [hds]; rfl) (by rw [hal]; rfl))).mono ?_
  rintro e w1 ⟨rfl, hb⟩
  refine ⟨_, rfl, ⟨fun w' => by rw [lev_of.2.1 hk]; exact tight_4 x xo1 xo2 xo3 xg1 xg2 xg3 y yo1 yo2 yo3 yg1 yg2 yg3 w', fun w' b l n hst hpg htb hn hlen => ?_⟩, hb⟩
  rw [txt_k4 hk hl] at hlen ⊢
  exact pform_4 hE hP hD hA x xo1 xo2 xo3 xg1 xg2 xg3 y yo1 yo2 yo3 yg1 yg2 yg3 w' B b l n d hpg htb hn hdeep ((reads_frame hst (fun _ h => h) h).1 _ _ xr) xok (by omega) ((reads_frame hst (fun _ h => h) h).1 _ _ yr) yok (by omega) hlen
set_option maxHeartbeats 1000000 in
theorem formW_5 {h : Nat} (hE : PxEx h) (hP : PxPa h) (hD : PxDs h) (hA : PxAs h) {B : Nat} {t x : Tr} {cs : List Value} {w : World} {d : Int} (hr : (reads (LtK B) w (h + 1)).ex t cs) (hok : (okz (h + 1)).ex t d = true) (hc : (cnt (h + 1)).ex t ≤ 200) (hk : t.k = 5) (hn0 : t.n = 0) (hl : t.l = [x]) (hds : t.ds = []) (hal : t.al = []) :
    Calls Tryz.prog 69 #[.agg cs.toArray] w fun e w' => ∃ v, e = .returned v ∧ FormW h B t d w v ∧ Below w.heap.size w w' := by
  have O := (ok_of hok).1
  have hdeep := O.deep
  obtain ⟨-, o1, c1, o2, c2, o3, c3, rfl, hsz, f1, f2, f3, r1, r2, r3⟩ := hr
  have hll : t.l.length = 1 := by rw [hl]; rfl
  have hcn : (cnt (h + 1)).ex t = 1 + sumZ (cnt h).ex t.l + sumZ (cnt h).al t.al + sumZ (cnt h).de t.ds := rfl
  have hsum : (cnt h).ex x ≤ sumZ (cnt h).ex t.l := by rw [hl]; simp [sumZ]
  have xok := O.parts x (by rw [hl]; simp)
  rw [hl] at r1
  obtain ⟨bb, off, rfl, -, hbl, hcs⟩ := r1 (by simp)
  obtain ⟨_, -, xk, xr⟩ := hcs 0 x rfl
  obtain ⟨xo1, xg1, xo2, xg2, xo3, xg3, rfl⟩ := ex_form xr
  have xq0 := xk 0 _ rfl
  have xq1 := xk 1 _ rfl
  have xq2 := xk 2 _ rfl
  have xq3 := xk 3 _ rfl
  have xq4 := xk 4 _ rfl
  have xq5 := xk 5 _ rfl
  simp only [Nat.zero_mul, Nat.one_mul, Nat.reduceMul, Nat.add_zero, Nat.zero_add] at xq0 xq1 xq2 xq3 xq4 xq5
  show Calls Tryz.prog 69 #[.agg #[.int .i64 t.k, .string t.s, .int .i64 t.n, .slice (some ⟨bb, off, none⟩) t.l.length c1, .slice o2 t.ds.length c2, .slice o3 t.al.length c3]] w _
  rw [hk, hll]
  refine (form5_yes t.s t.n bb off c1 o2 _ c2 o3 _ c3 (.int .i64 x.k) (.string x.s) (.int .i64 x.n) (.slice xo1 x.l.length xg1) (.slice xo2 x.ds.length xg2) (.slice xo3 x.al.length xg3) w xq0 xq1 xq2 xq3 xq4 xq5 (outl_yes rfl hn0.symm rfl (by rw [hds]; rfl) (by rw [hal]; rfl))).mono ?_
  rintro e w1 ⟨rfl, hb⟩
  refine ⟨_, rfl, ⟨fun w' => by rw [lev_of.2.2.2 (.inl hk)]; exact tight_5 t.s x xo1 xo2 xo3 xg1 xg2 xg3 w', fun w' b l n hst hpg htb hn hlen => ?_⟩, hb⟩
  rw [txt_k5 hk hl] at hlen ⊢
  exact pform_5 hE hP hD hA t.s x xo1 xo2 xo3 xg1 xg2 xg3 w' B b l n d hpg htb hn hdeep ((reads_frame hst (fun _ h => h) h).1 _ _ xr) xok (by omega) hlen
set_option maxHeartbeats 1000000 in
theorem formW_6 {h : Nat} (hE : PxEx h) (hP : PxPa h) (hD : PxDs h) (hA : PxAs h) {B : Nat} {t x : Tr} {cs : List Value} {w : World} {d : Int} (hr : (reads (LtK B) w (h + 1)).ex t cs) (hok : (okz (h + 1)).ex t d = true) (hc : (cnt (h + 1)).ex t ≤ 200) (hk : t.k = 6) (hs : t.s = ⟨#[]⟩) (hn0 : t.n = 0) (hl : t.l = [x]) (hal : t.al = []) (hd12 : d + 1 ≤ 12) (hdo : ∀ y, y ∈ t.ds → (okz h).de y (d + 1) = true) :
    Calls Tryz.prog 69 #[.agg cs.toArray] w fun e w' => ∃ v, e = .returned v ∧ FormW h B t d w v ∧ Below w.heap.size w w' := by
  have O := (ok_of hok).1
  have hdeep := O.deep
  obtain ⟨-, o1, c1, o2, c2, o3, c3, rfl, hsz, f1, f2, f3, r1, r2, r3⟩ := hr
  have hll : t.l.length = 1 := by rw [hl]; rfl
  have hcn : (cnt (h + 1)).ex t = 1 + sumZ (cnt h).ex t.l + sumZ (cnt h).al t.al + sumZ (cnt h).de t.ds := rfl
  have hsum : (cnt h).ex x ≤ sumZ (cnt h).ex t.l := by rw [hl]; simp [sumZ]
  have xok := O.parts x (by rw [hl]; simp)
  rw [hl] at r1
  obtain ⟨bb, off, rfl, -, hbl, hcs⟩ := r1 (by simp)
  obtain ⟨_, -, xk, xr⟩ := hcs 0 x rfl
  obtain ⟨xo1, xg1, xo2, xg2, xo3, xg3, rfl⟩ := ex_form xr
  have xq0 := xk 0 _ rfl
  have xq1 := xk 1 _ rfl
  have xq2 := xk 2 _ rfl
  have xq3 := xk 3 _ rfl
  have xq4 := xk 4 _ rfl
  have xq5 := xk 5 _ rfl
  simp only [Nat.zero_mul, Nat.one_mul, Nat.reduceMul, Nat.add_zero, Nat.zero_add] at xq0 xq1 xq2 xq3 xq4 xq5
  show Calls Tryz.prog 69 #[.agg #[.int .i64 t.k, .string t.s, .int .i64 t.n, .slice (some ⟨bb, off, none⟩) t.l.length c1, .slice o2 t.ds.length c2, .slice o3 t.al.length c3]] w _
  rw [hk, hll]
  refine (form6_yes t.s t.n bb off c1 o2 _ c2 o3 _ c3 (.int .i64 x.k) (.string x.s) (.int .i64 x.n) (.slice xo1 x.l.length xg1) (.slice xo2 x.ds.length xg2) (.slice xo3 x.al.length xg3) w xq0 xq1 xq2 xq3 xq4 xq5 (outl_yes hs.symm hn0.symm rfl rfl (by rw [hal]; rfl))).mono ?_
  rintro e w1 ⟨rfl, hb⟩
  refine ⟨_, rfl, ⟨fun w' => by rw [lev_of.2.2.2 (.inr (.inl hk))]; exact tight_6 t.ds o2 c2 x xo1 xo2 xo3 xg1 xg2 xg3 w', fun w' b l n hst hpg htb hn hlen => ?_⟩, hb⟩
  rw [txt_k6 hk hl] at hlen ⊢
  exact pform_6 hE hP hD hA t.ds o2 c2 x xo1 xo2 xo3 xg1 xg2 xg3 w' B b l n d hpg htb hn hdeep ((reads_frame hst (fun _ h => h) h).1 _ _ xr) xok (by omega) (r2.frame hst (fun _ h => h) (reads_frame hst (fun _ h => h) h).2.1) f2.1 hdo hd12 (by omega) hlen
set_option maxHeartbeats 1000000 in
theorem formW_7 {h : Nat} (hE : PxEx h) (hP : PxPa h) (hD : PxDs h) (hA : PxAs h) {B : Nat} {t x : Tr} {cs : List Value} {w : World} {d : Int} (hr : (reads (LtK B) w (h + 1)).ex t cs) (hok : (okz (h + 1)).ex t d = true) (hc : (cnt (h + 1)).ex t ≤ 200) (hk : t.k = 7) (hs : t.s = ⟨#[]⟩) (hn0 : t.n = 0) (hl : t.l = [x]) (hds : t.ds = []) (hal1 : 1 ≤ t.al.length) :
    Calls Tryz.prog 69 #[.agg cs.toArray] w fun e w' => ∃ v, e = .returned v ∧ FormW h B t d w v ∧ Below w.heap.size w w' := by
  have O := (ok_of hok).1
  have hdeep := O.deep
  obtain ⟨-, o1, c1, o2, c2, o3, c3, rfl, hsz, f1, f2, f3, r1, r2, r3⟩ := hr
  have hll : t.l.length = 1 := by rw [hl]; rfl
  have hcn : (cnt (h + 1)).ex t = 1 + sumZ (cnt h).ex t.l + sumZ (cnt h).al t.al + sumZ (cnt h).de t.ds := rfl
  have hsum : (cnt h).ex x ≤ sumZ (cnt h).ex t.l := by rw [hl]; simp [sumZ]
  have xok := O.parts x (by rw [hl]; simp)
  rw [hl] at r1
  obtain ⟨bb, off, rfl, -, hbl, hcs⟩ := r1 (by simp)
  obtain ⟨_, -, xk, xr⟩ := hcs 0 x rfl
  obtain ⟨xo1, xg1, xo2, xg2, xo3, xg3, rfl⟩ := ex_form xr
  have xq0 := xk 0 _ rfl
  have xq1 := xk 1 _ rfl
  have xq2 := xk 2 _ rfl
  have xq3 := xk 3 _ rfl
  have xq4 := xk 4 _ rfl
  have xq5 := xk 5 _ rfl
  simp only [Nat.zero_mul, Nat.one_mul, Nat.reduceMul, Nat.add_zero, Nat.zero_add] at xq0 xq1 xq2 xq3 xq4 xq5
  show Calls Tryz.prog 69 #[.agg #[.int .i64 t.k, .string t.s, .int .i64 t.n, .slice (some ⟨bb, off, none⟩) t.l.length c1, .slice o2 t.ds.length c2, .slice o3 t.al.length c3]] w _
  rw [hk, hll]
  refine (form7_yes t.s t.n bb off c1 o2 _ c2 o3 _ c3 (.int .i64 x.k) (.string x.s) (.int .i64 x.n) (.slice xo1 x.l.length xg1) (.slice xo2 x.ds.length xg2) (.slice xo3 x.al.length xg3) w xq0 xq1 xq2 xq3 xq4 xq5 (outl_yes hs.symm hn0.symm rfl (by rw [hds]; rfl) rfl)).mono ?_
  rintro e w1 ⟨rfl, hb⟩
  refine ⟨_, rfl, ⟨fun w' => by rw [lev_of.2.2.2 (.inr (.inr (.inl hk)))]; exact tight_7 t.al o3 c3 x xo1 xo2 xo3 xg1 xg2 xg3 w', fun w' b l n hst hpg htb hn hlen => ?_⟩, hb⟩
  rw [txt_k7 hk hl] at hlen ⊢
  exact pform_7 hE hP hD hA t.al o3 c3 x xo1 xo2 xo3 xg1 xg2 xg3 w' B b l n d hpg htb hn hdeep ((reads_frame hst (fun _ h => h) h).1 _ _ xr) xok (by omega) (r3.frame hst (fun _ h => h) (reads_frame hst (fun _ h => h) h).2.2) f3.1 hal1 O.alts (by omega) hlen
set_option maxHeartbeats 1000000 in
theorem formW_8 {h : Nat} (hE : PxEx h) (hP : PxPa h) (hD : PxDs h) (hA : PxAs h) {B : Nat} {t x y z : Tr} {cs : List Value} {w : World} {d : Int} (hr : (reads (LtK B) w (h + 1)).ex t cs) (hok : (okz (h + 1)).ex t d = true) (hc : (cnt (h + 1)).ex t ≤ 200) (hk : t.k = 8) (hs : t.s = ⟨#[]⟩) (hn0 : t.n = 0) (hl : t.l = [x, y, z]) (hds : t.ds = []) (hal : t.al = []) :
    Calls Tryz.prog 69 #[.agg cs.toArray] w fun e w' => ∃ v, e = .returned v ∧ FormW h B t d w v ∧ Below w.heap.size w w' := by
  have O := (ok_of hok).1
  have hdeep := O.deep
  obtain ⟨-, o1, c1, o2, c2, o3, c3, rfl, hsz, f1, f2, f3, r1, r2, r3⟩ := hr
  have hll : t.l.length = 3 := by rw [hl]; rfl
  have hcn : (cnt (h + 1)).ex t = 1 + sumZ (cnt h).ex t.l + sumZ (cnt h).al t.al + sumZ (cnt h).de t.ds := rfl
  have hsum : (cnt h).ex x + (cnt h).ex y + (cnt h).ex z ≤ sumZ (cnt h).ex t.l := by rw [hl]; simp [sumZ]; omega
  have xok := O.parts x (by rw [hl]; simp)
  have yok := O.parts y (by rw [hl]; simp)
  have zok := O.parts z (by rw [hl]; simp)
  rw [hl] at r1
  obtain ⟨bb, off, rfl, -, hbl, hcs⟩ := r1 (by simp)
  obtain ⟨_, -, xk, xr⟩ := hcs 0 x rfl
  obtain ⟨xo1, xg1, xo2, xg2, xo3, xg3, rfl⟩ := ex_form xr
  have xq0 := xk 0 _ rfl
  have xq1 := xk 1 _ rfl
  have xq2 := xk 2 _ rfl
  have xq3 := xk 3 _ rfl
  have xq4 := xk 4 _ rfl
  have xq5 := xk 5 _ rfl
  simp only [Nat.zero_mul, Nat.one_mul, Nat.reduceMul, Nat.add_zero, Nat.zero_add] at xq0 xq1 xq2 xq3 xq4 xq5
  obtain ⟨_, -, yk, yr⟩ := hcs 1 y rfl
  obtain ⟨yo1, yg1, yo2, yg2, yo3, yg3, rfl⟩ := ex_form yr
  have yq0 := yk 0 _ rfl
  have yq1 := yk 1 _ rfl
  have yq2 := yk 2 _ rfl
  have yq3 := yk 3 _ rfl
  have yq4 := yk 4 _ rfl
  have yq5 := yk 5 _ rfl
  simp only [Nat.zero_mul, Nat.one_mul, Nat.reduceMul, Nat.add_zero, Nat.zero_add] at yq0 yq1 yq2 yq3 yq4 yq5
  obtain ⟨_, -, zk, zr⟩ := hcs 2 z rfl
  obtain ⟨zo1, zg1, zo2, zg2, zo3, zg3, rfl⟩ := ex_form zr
  have zq0 := zk 0 _ rfl
  have zq1 := zk 1 _ rfl
  have zq2 := zk 2 _ rfl
  have zq3 := zk 3 _ rfl
  have zq4 := zk 4 _ rfl
  have zq5 := zk 5 _ rfl
  simp only [Nat.zero_mul, Nat.one_mul, Nat.reduceMul, Nat.add_zero, Nat.zero_add] at zq0 zq1 zq2 zq3 zq4 zq5
  show Calls Tryz.prog 69 #[.agg #[.int .i64 t.k, .string t.s, .int .i64 t.n, .slice (some ⟨bb, off, none⟩) t.l.length c1, .slice o2 t.ds.length c2, .slice o3 t.al.length c3]] w _
  rw [hk, hll]
  refine (form8_yes t.s t.n bb off c1 o2 _ c2 o3 _ c3 (.int .i64 x.k) (.string x.s) (.int .i64 x.n) (.slice xo1 x.l.length xg1) (.slice xo2 x.ds.length xg2) (.slice xo3 x.al.length xg3) (.int .i64 y.k) (.string y.s) (.int .i64 y.n) (.slice yo1 y.l.length yg1) (.slice yo2 y.ds.length yg2) (.slice yo3 y.al.length yg3) (.int .i64 z.k) (.string z.s) (.int .i64 z.n) (.slice zo1 z.l.length zg1) (.slice zo2 z.ds.length zg2) (.slice zo3 z.al.length zg3) w xq0 xq1 xq2 xq3 xq4 xq5 yq0 yq1 yq2 yq3 yq4 yq5 zq0 zq1 zq2 zq3 zq4 zq5 (outl_yes hs.symm hn0.symm rfl (by rw [hds]; rfl) (by rw [hal]; rfl))).mono ?_
  rintro e w1 ⟨rfl, hb⟩
  refine ⟨_, rfl, ⟨fun w' => by rw [lev_of.2.2.2 (.inr (.inr (.inr hk)))]; exact tight_8 x xo1 xo2 xo3 xg1 xg2 xg3 y yo1 yo2 yo3 yg1 yg2 yg3 z zo1 zo2 zo3 zg1 zg2 zg3 w', fun w' b l n hst hpg htb hn hlen => ?_⟩, hb⟩
  rw [txt_k8 hk hl] at hlen ⊢
  exact pform_8 hE hP hD hA x xo1 xo2 xo3 xg1 xg2 xg3 y yo1 yo2 yo3 yg1 yg2 yg3 z zo1 zo2 zo3 zg1 zg2 zg3 w' B b l n d hpg htb hn hdeep ((reads_frame hst (fun _ h => h) h).1 _ _ xr) xok (by omega) ((reads_frame hst (fun _ h => h) h).1 _ _ yr) yok (by omega) ((reads_frame hst (fun _ h => h) h).1 _ _ zr) zok (by omega) hlen
set_option maxHeartbeats 1000000 in
theorem formW_9 {h : Nat} (hE : PxEx h) (hP : PxPa h) (hD : PxDs h) (hA : PxAs h) {B : Nat} {t x y : Tr} {cs : List Value} {w : World} {d : Int} (hr : (reads (LtK B) w (h + 1)).ex t cs) (hok : (okz (h + 1)).ex t d = true) (hc : (cnt (h + 1)).ex t ≤ 200) (hk : t.k = 9) (hs2 : t.s.size ≤ 2) (hn0 : t.n = 0) (hl : t.l = [x, y]) (hds : t.ds = []) (hal : t.al = []) :
    Calls Tryz.prog 69 #[.agg cs.toArray] w fun e w' => ∃ v, e = .returned v ∧ FormW h B t d w v ∧ Below w.heap.size w w' := by
  have O := (ok_of hok).1
  have hdeep := O.deep
  obtain ⟨-, o1, c1, o2, c2, o3, c3, rfl, hsz, f1, f2, f3, r1, r2, r3⟩ := hr
  have hll : t.l.length = 2 := by rw [hl]; rfl
  have hcn : (cnt (h + 1)).ex t = 1 + sumZ (cnt h).ex t.l + sumZ (cnt h).al t.al + sumZ (cnt h).de t.ds := rfl
  have hsum : (cnt h).ex x + (cnt h).ex y ≤ sumZ (cnt h).ex t.l := by rw [hl]; simp [sumZ]
  have xok := O.parts x (by rw [hl]; simp)
  have yok := O.parts y (by rw [hl]; simp)
  rw [hl] at r1
  obtain ⟨bb, off, rfl, -, hbl, hcs⟩ := r1 (by simp)
  obtain ⟨_, -, xk, xr⟩ := hcs 0 x rfl
  obtain ⟨xo1, xg1, xo2, xg2, xo3, xg3, rfl⟩ := ex_form xr
  have xq0 := xk 0 _ rfl
  have xq1 := xk 1 _ rfl
  have xq2 := xk 2 _ rfl
  have xq3 := xk 3 _ rfl
  have xq4 := xk 4 _ rfl
  have xq5 := xk 5 _ rfl
  simp only [Nat.zero_mul, Nat.one_mul, Nat.reduceMul, Nat.add_zero, Nat.zero_add] at xq0 xq1 xq2 xq3 xq4 xq5
  obtain ⟨_, -, yk, yr⟩ := hcs 1 y rfl
  obtain ⟨yo1, yg1, yo2, yg2, yo3, yg3, rfl⟩ := ex_form yr
  have yq0 := yk 0 _ rfl
  have yq1 := yk 1 _ rfl
  have yq2 := yk 2 _ rfl
  have yq3 := yk 3 _ rfl
  have yq4 := yk 4 _ rfl
  have yq5 := yk 5 _ rfl
  simp only [Nat.zero_mul, Nat.one_mul, Nat.reduceMul, Nat.add_zero, Nat.zero_add] at yq0 yq1 yq2 yq3 yq4 yq5
  show Calls Tryz.prog 69 #[.agg #[.int .i64 t.k, .string t.s, .int .i64 t.n, .slice (some ⟨bb, off, none⟩) t.l.length c1, .slice o2 t.ds.length c2, .slice o3 t.al.length c3]] w _
  rw [hk, hll]
  refine (form9_yes t.s t.n bb off c1 o2 _ c2 o3 _ c3 (.int .i64 x.k) (.string x.s) (.int .i64 x.n) (.slice xo1 x.l.length xg1) (.slice xo2 x.ds.length xg2) (.slice xo3 x.al.length xg3) (.int .i64 y.k) (.string y.s) (.int .i64 y.n) (.slice yo1 y.l.length yg1) (.slice yo2 y.ds.length yg2) (.slice yo3 y.al.length yg3) w xq0 xq1 xq2 xq3 xq4 xq5 yq0 yq1 yq2 yq3 yq4 yq5 (outl_yes rfl hn0.symm rfl (by rw [hds]; rfl) (by rw [hal]; rfl))).mono ?_
  rintro e w1 ⟨rfl, hb⟩
  refine ⟨_, rfl, ⟨fun w' => by rw [lev_of.2.2.1 hk]; exact tight_9 t.s x xo1 xo2 xo3 xg1 xg2 xg3 y yo1 yo2 yo3 yg1 yg2 yg3 w', fun w' b l n hst hpg htb hn hlen => ?_⟩, hb⟩
  rw [txt_k9 hk hl] at hlen ⊢
  exact pform_9 hE hP hD hA t.s x xo1 xo2 xo3 xg1 xg2 xg3 y yo1 yo2 yo3 yg1 yg2 yg3 w' B b l n d hpg htb hn hdeep ((reads_frame hst (fun _ h => h) h).1 _ _ xr) xok (by omega) ((reads_frame hst (fun _ h => h) h).1 _ _ yr) yok (by omega) hs2 hlen
theorem dec_deep {K : Nat → Prop} {w : World} {h : Nat} {x : Tr} {cs : List Value} {d : Int} (hr : (reads K w h).de x cs) (hok : (okz h).de x d = true) : d ≤ 11 := by
  cases h with
  | zero => exact hr.elim
  | succ h =>
    obtain ⟨-, -, hb, -⟩ := okd_of hok
    obtain ⟨-, -, -, e, o1, c1, ce, o2, c2, hl, -⟩ := hr
    have := okz_12 (hb e (by rw [hl]; simp))
    omega
theorem formW_any {h : Nat} (hE : PxEx h) (hP : PxPa h) (hD : PxDs h) (hA : PxAs h) {B : Nat} {x : Tr} {cs : List Value} {w : World} {d : Int} (hr : (reads (LtK B) w (h + 1)).ex x cs) (hok : (okz (h + 1)).ex x d = true) (hc : (cnt (h + 1)).ex x ≤ 200) :
    Calls Tryz.prog 69 #[.agg cs.toArray] w fun e w' => ∃ v, e = .returned v ∧ FormW h B x d w v ∧ Below w.heap.size w w' := by
  obtain ⟨O, hh, hd6⟩ := ok_of hok
  rcases ok_kinds hh with ⟨k, -, hn, hl, hds, hal⟩ | ⟨k, -, hn, hl, hds, hal⟩ | ⟨k, h0, h1, hs, hl, hds, hal⟩ | ⟨k, hs, hn, ⟨a, b, hl⟩, hds, hal⟩ | ⟨k, -, hn, ⟨a, hl⟩, hds, hal⟩ | ⟨k, hs, hn, ⟨a, hl⟩, hal⟩ | ⟨k, hs, hn, ⟨a, hl⟩, hds, hal⟩ | ⟨k, hs, hn, ⟨a, b, c, hl⟩, hds, hal⟩ | ⟨k, hs, hn, ⟨a, b, hl⟩, hds, hal⟩
  · exact formW_1 hE hP hD hA hr hok hc k hn hl hds hal
  · exact formW_2 hE hP hD hA hr hok hc k hn hl hds hal
  · exact formW_3 hE hP hD hA hr hok hc k h0 h1 hs hl hds hal
  · exact formW_4 hE hP hD hA hr hok hc k hs hn hl hds hal
  · exact formW_5 hE hP hD hA hr hok hc k hn hl hds hal
  · obtain ⟨hd1, hdo⟩ := decs_of (hd6.resolve_left fun hc => hc k)
    refine formW_6 hE hP hD hA hr hok hc k hs hn hl hal ?_ hdo
    obtain ⟨-, o1, c1, o2, c2, o3, c3, -, -, -, -, -, -, r2, -⟩ := hr
    obtain ⟨y, hy⟩ : ∃ y, y ∈ x.ds := by
      cases hds : x.ds with
      | nil => rw [hds] at hd1; simp at hd1
      | cons y r => exact ⟨y, by simp⟩
    obtain ⟨cs, hc⟩ := row_mem r2 hy
    have := dec_deep hc (hdo y hy)
    omega
  · refine formW_7 hE hP hD hA hr hok hc k hs hn hl hds ?_
    unfold inB at hal
    simp at hal
    omega
  · exact formW_8 hE hP hD hA hr hok hc k hs hn hl hds hal
  · exact formW_9 hE hP hD hA hr hok hc k (op_size hs) hn hl hds hal
set_option maxHeartbeats 1000000 in
set_option maxRecDepth 100000 in
theorem pexp_step {h : Nat} (hE : PxEx h) (hP : PxPa h) (hD : PxDs h) (hA : PxAs h) : PxEx (h + 1) := by
  intro x cs w B b l n d hr hok hpg htb hn hc hlen
  obtain ⟨o1, c1, o2, c2, o3, c3, rfl⟩ := ex_form hr
  have HB0 : Hid (Below w.heap.size w (w.alloc (.cells #[.int .i64 x.k, .string x.s, .int .i64 x.n, .slice o1 x.l.length c1, .slice o2 x.ds.length c2, .slice o3 x.al.length c3] 47))) := (Below.refl _ w).alloc (Nat.le_refl _) _
  have CALL := hide (formW_any hE hP hD hA ((reads_later HB0.out (h + 1)).1 _ _ hr) hok hc)
  have PG := hide hpg
  have TB := hide htb
  clear hr hok hE hP hD hA hpg htb
  go_enter Tryz.func40, Tryz.ntmps40
  go_wp2_with fail
  refine CALL.out.mono ?_
  rintro e w1 ⟨v, rfl, hw, hb⟩
  have HW := hide hw
  have HB1 := hide (HB0.out.trans (hb.mono HB0.out.size))
  have HS1 := hide (Stays.of (K := LtK B) hb)
  clear hw hb CALL
  go_wp2_with fail
  refine (HW.out.write w1 b l n HS1.out (PG.out.later HB1.out) (TB.out.on (HB1.out.mono PG.out.2)) hn hlen).mono ?_
  rintro e w2 ⟨rfl, h2, f2⟩
  have H2 := hide h2
  have F2 := hide ((Fr.of HB1.out PG.out.2).trans f2)
  clear h2 f2
  go_wp2
  go_end0
  exact ⟨rfl, H2.out, F2.out⟩
set_option maxHeartbeats 1000000 in
set_option maxRecDepth 100000 in
theorem ppart_step {h : Nat} (hE : PxEx h) (hP : PxPa h) (hD : PxDs h) (hA : PxAs h) : PxPa (h + 1) := by
  intro x cs w B b l n d lv hr hok hpg htb hn hc hlen hlv
  obtain ⟨o1, c1, o2, c2, o3, c3, rfl⟩ := ex_form hr
  have HB0 : Hid (Below w.heap.size w (w.alloc (.cells #[.int .i64 x.k, .string x.s, .int .i64 x.n, .slice o1 x.l.length c1, .slice o2 x.ds.length c2, .slice o3 x.al.length c3] 47))) := (Below.refl _ w).alloc (Nat.le_refl _) _
  have CALL := hide (formW_any hE hP hD hA ((reads_later HB0.out (h + 1)).1 _ _ hr) hok hc)
  have PG := hide hpg
  have TB := hide htb
  have hat : atL (txt (h + 1)).ex x lv n = brL (decide (levB x < lv)) ((txt (h + 1)).ex x n) := rfl
  clear hr hok hE hP hD hA hpg htb
  go_enter Tryz.func102, Tryz.ntmps102
  go_wp2_with fail
  refine CALL.out.mono ?_
  rintro e w1 ⟨v, rfl, hw, hb⟩
  have HW := hide hw
  have HB1 := hide (HB0.out.trans (hb.mono HB0.out.size))
  have HS1 := hide (Stays.of (K := LtK B) hb)
  clear hw hb CALL
  go_wp2_with fail
  refine (HW.out.tight w1).mono ?_
  rintro e w2 ⟨rfl, hb⟩
  have HB2 := hide (HB1.out.trans (hb.mono HB1.out.size))
  have HS2 := hide (HS1.out.trans (Stays.of (K := LtK B) hb))
  have P2 := hide (PG.out.later HB2.out)
  have F2 := hide (Fr.of (b := b) HB2.out PG.out.2)
  clear hb
  by_cases hlt : levB x < lv
  · have hge : ¬ ((lv : Nat) : Int) ≤ (levB x : Nat) := by omega
    have hlt2 : ((levB x : Nat) : Int) < (lv : Nat) := by omega
    rw [hat, decide_eq_true hlt] at hlen
    have hlen2 : l.length + ((txt (h + 1)).ex x n).length + 2 ≤ 10000000 := by
      have : (brL true ((txt (h + 1)).ex x n)).length = ((txt (h + 1)).ex x n).length + 2 := by simp [brL]
      omega
    have HAT : Hid (atL (txt (h + 1)).ex x lv n = 40 :: ((txt (h + 1)).ex x n ++ [41])) := by
      show atL (txt (h + 1)).ex x lv n = _
      rw [hat, decide_eq_true hlt]
      rfl
    clear hat hlen
    go_wp2_with fail
    refine (put1 B b l ⟨#[40]⟩ w2 P2.out (by show l.length + 1 ≤ _; omega)).mono ?_
    rintro e w3 ⟨rfl, h3, f3⟩
    have P3 := hide h3
    have F3 := hide (F2.out.trans f3)
    have HS3 := hide (HS2.out.trans f3.stays)
    clear h3 f3
    go_wp2_with fail
    refine (HW.out.write w3 b _ n HS3.out P3.out (TB.out.on F3.out.below) hn (by rw [List.length_append]; show l.length + 1 + _ ≤ _; omega)).mono ?_
    rintro e w4 ⟨rfl, h4, f4⟩
    have P4 := hide h4
    have F4 := hide (F3.out.trans f4)
    clear h4 f4
    go_wp2_with fail
    refine (put1 B b _ ⟨#[41]⟩ w4 P4.out (by rw [List.length_append, List.length_append]; show l.length + 1 + _ + 1 ≤ _; omega)).mono ?_
    rintro e w5 ⟨rfl, h5, f5⟩
    have P5 := hide h5
    have F5 := hide (F4.out.trans f5)
    clear h5 f5
    go_wp2
    go_end0
    refine ⟨rfl, ?_, F5.out⟩
    rw [HAT.out]
    have key := P5.out
    have hE : l ++ bl ⟨#[40]⟩ ++ (txt (h + 1)).ex x n ++ bl ⟨#[41]⟩ = l ++ (40 :: ((txt (h + 1)).ex x n ++ [41])) := by simp only [bl_mk, List.append_assoc, List.cons_append, List.nil_append]
    rw [hE] at key
    exact key
  · have hge : ((lv : Nat) : Int) ≤ (levB x : Nat) := by omega
    rw [hat, decide_eq_false hlt] at hlen
    have HAT : Hid (atL (txt (h + 1)).ex x lv n = (txt (h + 1)).ex x n) := by
      show atL (txt (h + 1)).ex x lv n = _
      rw [hat, decide_eq_false hlt]
      rfl
    clear hat
    go_wp2_with fail
    refine (HW.out.write w2 b _ n HS2.out P2.out (TB.out.on F2.out.below) hn hlen).mono ?_
    rintro e w4 ⟨rfl, h4, f4⟩
    have P4 := hide h4
    have F4 := hide (F2.out.trans f4)
    clear h4 f4
    go_wp2
    go_end0
    refine ⟨rfl, ?_, F4.out⟩
    rw [HAT.out]
    exact P4.out
end Go.Proofs.YteoghpefilghdakGreatDoor
namespace Go.Proofs.YteoghpefilghdakGreatDoor
open Go.ChangeShapes Go.WideShapes Go.ChangeAt Go.RowKit
set_option linter.unusedVariables false
set_option linter.unusedSimpArgs false

set_option maxHeartbeats 1000000 in
set_option maxRecDepth 100000 in
theorem pat_any (B b : Nat) (l : List UInt8) (x : Tr) (o : Option Addr) (c : Nat) (v0 v1 v2 v3 v4 v5 : Value) (w : World) (hpg : Pg B b l w) (hm : RowOf (LtK B) w strR 1 o x.ss) (hab : altB x = true) (hlen : l.length + (headL x.s x.ss).length ≤ 10000000) :
    Calls Tryz.prog 134 #[.pointer (some ⟨b, 0, none⟩), .agg #[.string x.s, .slice o x.ss.length c, v0, v1, v2, v3, v4, v5]] w (Wr B b l (headL x.s x.ss) w) := by
  have hal := alt_of hab
  have S0 := hide (Stp.first hpg #[.string x.s, .slice o x.ss.length c, v0, v1, v2, v3, v4, v5] 144)
  have HM := hide (hm.frame S0.out.fr.stays (fun _ h => h) (fun _ _ h => h))
  have hor : (emptyB x.s = false) ∨ (emptyB x.s = true ∧ x.ss.length = 1) := by
    unfold altB at hab
    simp only [Bool.and_eq_true, Bool.or_eq_true, decide_eq_true_eq] at hab
    rcases hab.2 with h | ⟨h, h2⟩
    · left
      cases he : emptyB x.s
      · rfl
      · have := (gr_size h).2
        rw [empty_size he] at this
        simp [ByteArray.size] at this
    · exact .inr ⟨h, by omega⟩
  clear hab hpg hm
  rcases hor with he | ⟨he, h1⟩
  · have e1 : (x.s.toList == []) = false := he
    have hh : headL x.s x.ss = bl x.s ++ namesL x.ss := by unfold headL; rw [he]; rfl
    rw [hh] at hlen
    have HH := hide hh
    simp only [List.length_append, bl_len] at hlen
    clear hh
    go_enter Tryz.func134, Tryz.ntmps134
    go_wp2_with fail
    refine (putNames_any B b l x.s x.ss o c _ S0.out.pg HM.out hal.2.1 (by omega)).mono ?_
    rintro e w1 ⟨rfl, h1, f1⟩
    have S1 := hide (S0.out.next h1 f1 (by decide) (by decide))
    clear h1 f1
    go_wp2
    go_end0
    refine ⟨rfl, ?_, S1.out.fr⟩
    rw [HH.out]
    exact S1.out.pg
  · obtain ⟨y, hy⟩ := zlen1 h1
    have e1 : (x.s.toList == []) = true := he
    have hh : headL x.s x.ss = bl y := by rw [hy]; exact headL_first he
    rw [hh] at hlen
    have HH := hide hh
    rw [bl_len] at hlen
    have hrow := HM.out
    rw [hy] at hrow
    obtain ⟨g, off, eo, hKg, hgl, hcs⟩ := hrow (by simp)
    subst eo
    obtain ⟨_, -, hkey, rfl, hys⟩ := hcs 0 y rfl
    have q0 := hkey 0 _ rfl
    simp only [Nat.mul_one, Nat.add_zero, List.length_cons, List.length_nil, Nat.zero_add] at q0
    rw [h1] at S0 ⊢
    clear hh hrow hcs hkey HM hy h1
    go_enter Tryz.func134, Tryz.ntmps134
    go_wp2_with fail
    refine (put1g B b l y (w.alloc (.cells #[.string x.s, .slice (some ⟨g, off, none⟩) 1 c, v0, v1, v2, v3, v4, v5] 144)) _ S0.out.pg (by first | rfl | simp) (by omega)).mono ?_
    rintro e w1 ⟨rfl, h1, f1⟩
    have S1 := hide (S0.out.next h1 f1 (by decide) (by decide))
    clear h1 f1
    go_wp2
    go_end0
    refine ⟨rfl, ?_, S1.out.fr⟩
    rw [HH.out]
    exact S1.out.pg

set_option maxHeartbeats 2000000 in
set_option maxRecDepth 100000 in
theorem palts_step {h : Nat} (hE : PxEx h) : PxAs (h + 1) := by
  intro xs o c w B b l n d hm hl hl1 hal hd hpg htb hn hc hlen
  have HE := hide hE
  have HM := hide hm
  have HAL := hide hal
  have PG := hide hpg
  have TB := hide htb
  have hl2 : xs.length ≤ 9223372036854775807 := hl
  have hn2 : n ≤ 120 := by omega
  clear hE hm hal hpg htb hl
  go_enter Tryz.func103, Tryz.ntmps103
  go_wp2
  go_loopw [10] (fun t wr => ∃ i : Nat, i ≤ xs.length ∧ t = .int .i64 i ∧ Pg B b (l ++ linesL (txt (h + 1)).al (xs.take i) n) wr ∧ Fr B b w wr) (fun t _ => xs.length - (intOf t).toNat)
  case atStart => exact ⟨0, Nat.zero_le _, rfl, by simpa [linesL] using PG.out, Fr.refl _ _ _⟩
  case round =>
    obtain ⟨i, hi, rfl, hp, hf⟩ := hrel
    have HP := hide hp
    have HF := hide hf
    clear hp hf
    by_cases hlt : i < xs.length
    · have hne : xs ≠ [] := by intro e; rw [e] at hlt; simp at hlt
      obtain ⟨x, hx⟩ : ∃ x, xs[i]? = some x := ⟨xs[i], List.getElem?_eq_getElem hlt⟩
      obtain ⟨g, off, eo, -, hbl, hcs⟩ := (HM.out.frame HF.out.stays (fun _ h => h) (reads_fr HF.out (h + 1)).2.2) hne
      subst eo
      obtain ⟨cs, hlc, hkey, hrd⟩ := hcs i x hx
      have hmem := List.mem_of_getElem? hx
      obtain ⟨hab, hok⟩ := HAL.out x hmem
      have hsz := alt_of hab
      have hcx : (cnt (h + 1)).al x ≤ 200 := Nat.le_trans (part_sum hx) hc
      obtain ⟨-, -, -, -, y, p0, g0, ce, hy, rfl, -, hf0, hrs, hce, hre⟩ := hrd
      obtain ⟨p1, g1, p2, g2, p3, g3, rfl⟩ := ex_form hre
      have q0 := hkey 0 (.string x.s) rfl
      have q1 := hkey 1 (.slice p0 x.ss.length g0) rfl
      have q2 := hkey 2 (.int .i64 y.k) rfl
      have q3 := hkey 3 (.string y.s) rfl
      have q4 := hkey 4 (.int .i64 y.n) rfl
      have q5 := hkey 5 (.slice p1 y.l.length g1) rfl
      have q6 := hkey 6 (.slice p2 y.ds.length g2) rfl
      have q7 := hkey 7 (.slice p3 y.al.length g3) rfl
      rw [Nat.add_zero] at q0
      have hyo := oka_of hok y (by rw [hy]; simp)
      have hcy : (cnt h).ex y ≤ 200 := by
        have h1 : (cnt (h + 1)).al x = sumZ (cnt h).ex x.l := rfl
        have h2 : (cnt h).ex y ≤ sumZ (cnt h).ex x.l := part_sum (i := 0) (by rw [hy]; rfl)
        omega
      have hlt2 : (i : Int) < xs.length := by omega
      have htk := lines_take (txt (h + 1)).al xs i x n hx
      rw [txt_al hy] at htk
      have hle := lines_take_len (txt (h + 1)).al xs (i + 1) n
      rw [htk] at hle
      simp only [List.length_append, List.length_cons, List.length_nil, padL_len] at hle
      have HTK := hide htk
      have HAB := hide hab
      have HRS := hide hrs
      have HRE := hide hre
      have wn : IntKind.i64.wrap ((n : Int) + 2) = (n : Int) + 2 := px_add (by omega) (by omega) (by omega) (by omega)
      have S0 := hide (Stp.first HP.out #[.string x.s, .slice p0 x.ss.length g0, .int .i64 y.k, .string y.s, .int .i64 y.n, .slice p1 y.l.length g1, .slice p2 y.ds.length g2, .slice p3 y.al.length g3] 144)
      clear hcs hx hne hkey hlc hrs hre hok hab hf0 hce hmem hy htk
      go_wp2_with fail
      refine (newLine_any B b _ n _ S0.out.pg (by omega) (by simp only [List.length_append]; omega)).mono ?_
      rintro e w1 ⟨rfl, h1, f1⟩
      have S1 := hide (S0.out.next h1 f1 (by decide) (by decide))
      clear h1 f1 q0 q1 q2 q3 q4 q5 q6 q7
      have y0 := cell_of S1.out.bx 0
      have y1 := cell_of S1.out.bx 1
      have y2 := cell_of S1.out.bx 2
      have y3 := cell_of S1.out.bx 3
      have y4 := cell_of S1.out.bx 4
      have y5 := cell_of S1.out.bx 5
      have y6 := cell_of S1.out.bx 6
      have y7 := cell_of S1.out.bx 7
      simp only [List.getElem?_toArray, List.getElem?_cons_succ, List.getElem?_cons_zero] at y0 y1 y2 y3 y4 y5 y6 y7
      go_wp2_with fail
      refine (pat_any B b _ x p0 g0 _ _ _ _ _ _ w1 S1.out.pg (HRS.out.frame S1.out.fr.stays (fun _ h => h) (fun _ _ h => h)) HAB.out (by simp only [List.length_append, List.length_cons, padL_len]; omega)).mono ?_
      rintro e w2 ⟨rfl, h1, f1⟩
      have S2 := hide (S1.out.next h1 f1 (by decide) (by decide))
      clear h1 f1 y0 y1 y2 y3 y4 y5 y6 y7
      go_wp2_with fail
      refine (put1 B b _ ⟨#[32, 45, 62, 32]⟩ w2 S2.out.pg (by simp only [List.length_append, List.length_cons, List.length_nil, padL_len, lit_size, List.size_toArray]; omega)).mono ?_
      rintro e w3 ⟨rfl, h1, f1⟩
      have S3 := hide (S2.out.next h1 f1 (by decide) (by decide))
      clear h1 f1
      have y0 := cell_of S3.out.bx 0
      have y1 := cell_of S3.out.bx 1
      have y2 := cell_of S3.out.bx 2
      have y3 := cell_of S3.out.bx 3
      have y4 := cell_of S3.out.bx 4
      have y5 := cell_of S3.out.bx 5
      have y6 := cell_of S3.out.bx 6
      have y7 := cell_of S3.out.bx 7
      simp only [List.getElem?_toArray, List.getElem?_cons_succ, List.getElem?_cons_zero] at y0 y1 y2 y3 y4 y5 y6 y7
      go_wp2_with fail
      refine (HE.out y _ w3 B b _ (n + 2) d ((reads_fr S3.out.fr h).1 _ _ HRE.out) hyo S3.out.pg (TB.out.on (HF.out.trans S3.out.fr).below) (by omega) hcy (by simp only [List.length_append, List.length_cons, List.length_nil, padL_len, bl_len, lit_size, List.size_toArray]; omega)).mono ?_
      rintro e w4 ⟨rfl, h1, f1⟩
      have S4 := hide (S3.out.next h1 f1 (by decide) (by decide))
      clear h1 f1 y0 y1 y2 y3 y4 y5 y6 y7
      go_wp2
      refine ⟨⟨i + 1, by omega, by go_num, ?_, HF.out.trans S4.out.fr⟩, by simp [intOf]; omega⟩
      rw [HTK.out]
      have key := S4.out.pg
      have hE : l ++ linesL (txt (h + 1)).al (xs.take i) n ++ (10 :: padL n) ++ headL x.s x.ss ++ bl ⟨#[32, 45, 62, 32]⟩ ++ (txt h).ex y (n + 2) = l ++ (linesL (txt (h + 1)).al (xs.take i) n ++ (10 :: (padL n ++ (headL x.s x.ss ++ ([32, 45, 62, 32] ++ (txt h).ex y (n + 2)))))) := by simp only [bl_mk, List.append_assoc, List.cons_append, List.nil_append]
      rw [hE] at key
      exact key
    · have hlt2 : ¬ (i : Int) < xs.length := by omega
      have hie : i = xs.length := by omega
      subst hie
      go_wp2
      go_end0
      refine ⟨rfl, ?_, HF.out⟩
      have := HP.out
      rw [List.take_length] at this
      exact this

set_option maxHeartbeats 2000000 in
set_option maxRecDepth 100000 in
theorem pdecs_of {h : Nat} (hD : PxDe h) : PxDs h := by
  intro xs o c w B b l n d hm hl hal hd hpg htb hn hc hlen
  have HD := hide hD
  have HM := hide hm
  have HAL := hide hal
  have PG := hide hpg
  have TB := hide htb
  have hl2 : xs.length ≤ 9223372036854775807 := hl
  have hn2 : n ≤ 120 := by omega
  clear hD hm hal hpg htb hl
  go_enter Tryz.func41, Tryz.ntmps41
  go_wp2
  go_loopw [10] (fun t wr => ∃ i : Nat, i ≤ xs.length ∧ t = .int .i64 i ∧ Pg B b (l ++ linesL (txt h).de (xs.take i) n) wr ∧ Fr B b w wr) (fun t _ => xs.length - (intOf t).toNat)
  case atStart => exact ⟨0, Nat.zero_le _, rfl, by simpa [linesL] using PG.out, Fr.refl _ _ _⟩
  case round =>
    obtain ⟨i, hi, rfl, hp, hf⟩ := hrel
    have HP := hide hp
    have HF := hide hf
    clear hp hf
    by_cases hlt : i < xs.length
    · have hne : xs ≠ [] := by intro e; rw [e] at hlt; simp at hlt
      obtain ⟨x, hx⟩ : ∃ x, xs[i]? = some x := ⟨xs[i], List.getElem?_eq_getElem hlt⟩
      obtain ⟨g, off, eo, -, hbl, hcs⟩ := (HM.out.frame HF.out.stays (fun _ h => h) (reads_fr HF.out h).2.1) hne
      subst eo
      obtain ⟨cs, hlc, hkey, hrd⟩ := hcs i x hx
      have hok := HAL.out x (List.mem_of_getElem? hx)
      have hcx : (cnt h).de x ≤ 200 := Nat.le_trans (part_sum hx) hc
      obtain ⟨z, o0, c0, o1, c1, o2, c2, o3, c3, o4, c4, rfl⟩ := de_form hrd
      have q0 := hkey 0 _ rfl
      have q1 := hkey 1 _ rfl
      have q2 := hkey 2 _ rfl
      have q3 := hkey 3 _ rfl
      have q4 := hkey 4 _ rfl
      have q5 := hkey 5 _ rfl
      have q6 := hkey 6 _ rfl
      have q7 := hkey 7 _ rfl
      have q8 := hkey 8 _ rfl
      rw [Nat.add_zero] at q0
      have hlt2 : (i : Int) < xs.length := by omega
      have htk := lines_take (txt h).de xs i x n hx
      have hle := lines_take_len (txt h).de xs (i + 1) n
      rw [htk] at hle
      simp only [List.length_append, List.length_cons, List.length_nil, padL_len] at hle
      have HTK := hide htk
      have HRD := hide hrd
      have S0 := hide (Stp.first HP.out #[.string x.s, .slice o0 x.ss.length c0, .int .i64 z.k, .string z.s, .int .i64 z.n, .slice o1 z.l.length c1, .slice o2 z.ds.length c2, .slice o3 z.al.length c3, .slice o4 x.ds.length c4] 49)
      clear hcs hx hne hkey hlc hrd htk
      go_wp2_with fail
      refine (newLine_any B b _ n _ S0.out.pg (by omega) (by simp only [List.length_append]; omega)).mono ?_
      rintro e w1 ⟨rfl, h1, f1⟩
      have S1 := hide (S0.out.next h1 f1 (by decide) (by decide))
      clear h1 f1 q0 q1 q2 q3 q4 q5 q6 q7 q8
      have y0 := cell_of S1.out.bx 0
      have y1 := cell_of S1.out.bx 1
      have y2 := cell_of S1.out.bx 2
      have y3 := cell_of S1.out.bx 3
      have y4 := cell_of S1.out.bx 4
      have y5 := cell_of S1.out.bx 5
      have y6 := cell_of S1.out.bx 6
      have y7 := cell_of S1.out.bx 7
      have y8 := cell_of S1.out.bx 8
      simp only [List.getElem?_toArray, List.getElem?_cons_succ, List.getElem?_cons_zero] at y0 y1 y2 y3 y4 y5 y6 y7 y8
      go_wp2_with fail
      refine (HD.out x _ w1 B b _ n d ((reads_fr S1.out.fr h).2.1 _ _ HRD.out) hok S1.out.pg (TB.out.on (HF.out.trans S1.out.fr).below) hn hcx (by simp only [List.length_append, List.length_cons, padL_len]; omega)).mono ?_
      rintro e w2 ⟨rfl, h1, f1⟩
      have S2 := hide (S1.out.next h1 f1 (by decide) (by decide))
      clear h1 f1 y0 y1 y2 y3 y4 y5 y6 y7 y8
      go_wp2
      refine ⟨⟨i + 1, by omega, by go_num, ?_, HF.out.trans S2.out.fr⟩, by simp [intOf]; omega⟩
      rw [HTK.out]
      have key := S2.out.pg
      have hE : l ++ linesL (txt h).de (xs.take i) n ++ (10 :: padL n) ++ (txt h).de x n = l ++ (linesL (txt h).de (xs.take i) n ++ (10 :: (padL n ++ (txt h).de x n))) := by simp only [List.append_assoc, List.cons_append]
      rw [hE] at key
      exact key
    · have hlt2 : ¬ (i : Int) < xs.length := by omega
      have hie : i = xs.length := by omega
      subst hie
      go_wp2
      go_end0
      refine ⟨rfl, ?_, HF.out⟩
      have := HP.out
      rw [List.take_length] at this
      exact this

theorem name_head {s : ByteArray} {l : List ByteArray} (h : nmB s = true) : headL s l = bl s ++ namesL l := by
  have h1 : emptyB s = false := by
    cases he : emptyB s
    · rfl
    · have := (nm_size h).2
      rw [empty_size he] at this
      simp [ByteArray.size] at this
  unfold headL
  rw [h1]
  rfl
set_option maxHeartbeats 4000000 in
set_option maxRecDepth 100000 in
theorem pdec_step {h : Nat} (hE : PxEx h) (hD : PxDs h) : PxDe (h + 1) := by
  intro x cs w B b l n d hr hok hpg htb hn hc hlen
  have hd11 := dec_deep hr hok
  obtain ⟨hs, hv, hb, hw⟩ := okd_of hok
  have hvs := vars_le hv
  obtain ⟨-, -, -, e, o1, c1, ce, o2, c2, hl, rfl, -, hf1, hf2, hrs, -, hre, hrd⟩ := hr
  obtain ⟨p1, g1, p2, g2, p3, g3, rfl⟩ := ex_form hre
  have heo := hb e (by rw [hl]; simp)
  have hcn : (cnt (h + 1)).de x = sumZ (cnt h).ex x.l + sumZ (cnt h).de x.ds := rfl
  have hce : (cnt h).ex e ≤ sumZ (cnt h).ex x.l := part_sum (i := 0) (by rw [hl]; rfl)
  have htx := txt_de (h := h) (n := n) hl
  rw [name_head hs] at htx
  rw [htx] at hlen ⊢
  simp only [List.length_append, List.length_cons, List.length_nil, bl_len] at hlen
  have HRS := hide hrs
  have HRE := hide hre
  have HRD := hide hrd
  have HW := hide hw
  have HE := hide hE
  have HD := hide hD
  have TB := hide htb
  have hl2 : x.ds.length ≤ 9223372036854775807 := hf2.1
  have wn : IntKind.i64.wrap ((n : Int) + 2) = (n : Int) + 2 := px_add (by omega) (by omega) (by omega) (by omega)
  have wn4 : IntKind.i64.wrap ((n : Int) + 2 + 2) = (n : Int) + 2 + 2 := px_add (by omega) (by omega) (by omega) (by omega)
  have S0 := hide (Stp.first hpg #[.string x.s, .slice o1 x.ss.length c1, .int .i64 e.k, .string e.s, .int .i64 e.n, .slice p1 e.l.length g1, .slice p2 e.ds.length g2, .slice p3 e.al.length g3, .slice o2 x.ds.length c2] 49)
  clear hok hb hs hv hrs hre hrd hw hl hE hD hpg htb htx
  show Calls Tryz.prog 19 #[.pointer (some ⟨b, 0, none⟩), .agg #[.string x.s, .slice o1 x.ss.length c1, .int .i64 e.k, .string e.s, .int .i64 e.n, .slice p1 e.l.length g1, .slice p2 e.ds.length g2, .slice p3 e.al.length g3, .slice o2 x.ds.length c2], .int .i64 n] w _
  go_enter Tryz.func19, Tryz.ntmps19
  go_wp2_with fail
  refine (putNames_any B b l x.s x.ss o1 c1 _ S0.out.pg (HRS.out.frame S0.out.fr.stays (fun _ h => h) (fun _ _ h => h)) hvs.1 (by omega)).mono ?_
  rintro r w1 ⟨rfl, h1, f1⟩
  have S1 := hide (S0.out.next h1 f1 (by decide) (by decide))
  clear h1 f1
  go_wp2_with fail
  refine (put1 B b _ ⟨#[32, 61, 32]⟩ w1 S1.out.pg (by simp only [List.length_append, bl_len, lit_size, List.size_toArray, List.length_cons, List.length_nil]; omega)).mono ?_
  rintro r w2 ⟨rfl, h1, f1⟩
  have S2 := hide (S1.out.next h1 f1 (by decide) (by decide))
  clear h1 f1
  have y2 := cell_of S2.out.bx 2
  have y3 := cell_of S2.out.bx 3
  have y4 := cell_of S2.out.bx 4
  have y5 := cell_of S2.out.bx 5
  have y6 := cell_of S2.out.bx 6
  have y7 := cell_of S2.out.bx 7
  simp only [List.getElem?_toArray, List.getElem?_cons_succ, List.getElem?_cons_zero] at y2 y3 y4 y5 y6 y7
  go_wp2_with fail
  refine (HE.out e _ w2 B b _ (n + 2) (d + 1) ((reads_fr S2.out.fr h).1 _ _ HRE.out) heo S2.out.pg (TB.out.on S2.out.fr.below) (by omega) (by omega) (by simp only [List.length_append, List.length_cons, List.length_nil, bl_len, lit_size, List.size_toArray]; omega)).mono ?_
  rintro r w3 ⟨rfl, h1, f1⟩
  have S3 := hide (S2.out.next h1 f1 (by decide) (by decide))
  clear h1 f1 y2 y3 y4 y5 y6 y7
  have y8 := cell_of S3.out.bx 8
  simp only [List.getElem?_toArray, List.getElem?_cons_succ, List.getElem?_cons_zero] at y8
  by_cases hds : x.ds.length = 0
  · have hnil := zlen0 hds
    have hds2 : ¬ (0 : Int) < x.ds.length := by omega
    go_wp2
    go_end0
    refine ⟨rfl, ?_, S3.out.fr⟩
    have key := S3.out.pg
    have hE : l ++ (bl x.s ++ namesL x.ss) ++ bl ⟨#[32, 61, 32]⟩ ++ (txt h).ex e (n + 2) = l ++ (bl x.s ++ namesL x.ss ++ ([32, 61, 32] ++ ((txt h).ex e (n + 2) ++ whereL (txt h) x.ds n))) := by
      rw [hnil]
      simp only [whereL, if_true, bl_mk, List.append_assoc, List.cons_append, List.nil_append, List.append_nil]
    rw [hE] at key
    exact key
  · have hds2 : (0 : Int) < x.ds.length := by omega
    have hne : x.ds ≠ [] := fun hc => hds (by rw [hc]; rfl)
    have hwh := HW.out.resolve_left hne
    have HWL : Hid (whereL (txt h) x.ds n = 10 :: (padL (n + 2) ++ ([119, 104, 101, 114, 101] ++ linesL (txt h).de x.ds (n + 4)))) := by
      show whereL (txt h) x.ds n = _
      unfold whereL
      rw [if_neg hne]
    rw [HWL.out] at hlen
    simp only [List.length_append, List.length_cons, List.length_nil, padL_len] at hlen
    go_wp2_with fail
    refine (newLine_any B b _ (n + 2) w3 S3.out.pg (by omega) (by simp only [List.length_append, List.length_cons, List.length_nil, bl_len, lit_size, List.size_toArray]; omega)).mono ?_
    rintro r w4 ⟨rfl, h1, f1⟩
    have S4 := hide (S3.out.next h1 f1 (by decide) (by decide))
    clear h1 f1 y8
    go_wp2_with fail
    refine (put1 B b _ ⟨#[119, 104, 101, 114, 101]⟩ w4 S4.out.pg (by simp only [List.length_append, List.length_cons, List.length_nil, bl_len, padL_len, lit_size, List.size_toArray]; omega)).mono ?_
    rintro r w5 ⟨rfl, h1, f1⟩
    have S5 := hide (S4.out.next h1 f1 (by decide) (by decide))
    clear h1 f1
    have y8 := cell_of S5.out.bx 8
    simp only [List.getElem?_toArray, List.getElem?_cons_succ, List.getElem?_cons_zero] at y8
    go_wp2_with fail
    refine (HD.out x.ds o2 c2 w5 B b _ (n + 4) (d + 1) (HRD.out.frame S5.out.fr.stays (fun _ h => h) (reads_fr S5.out.fr h).2.1) hf2.1 hwh.2 (by omega) S5.out.pg (TB.out.on S5.out.fr.below) (by omega) (by omega) (by simp only [List.length_append, List.length_cons, List.length_nil, bl_len, padL_len, lit_size, List.size_toArray]; omega)).mono ?_
    rintro r w6 ⟨rfl, h1, f1⟩
    have S6 := hide (S5.out.next h1 f1 (by decide) (by decide))
    clear h1 f1 y8
    go_wp2
    go_end0
    refine ⟨rfl, ?_, S6.out.fr⟩
    rw [HWL.out]
    have key := S6.out.pg
    have hE : l ++ (bl x.s ++ namesL x.ss) ++ bl ⟨#[32, 61, 32]⟩ ++ (txt h).ex e (n + 2) ++ (10 :: padL (n + 2)) ++ bl ⟨#[119, 104, 101, 114, 101]⟩ ++ linesL (txt h).de x.ds (n + 4) = l ++ (bl x.s ++ namesL x.ss ++ ([32, 61, 32] ++ ((txt h).ex e (n + 2) ++ (10 :: (padL (n + 2) ++ ([119, 104, 101, 114, 101] ++ linesL (txt h).de x.ds (n + 4))))))) := by simp only [bl_mk, List.append_assoc, List.cons_append, List.nil_append]
    rw [hE] at key
    exact key
theorem px_all (h : Nat) : PxEx h ∧ PxPa h ∧ PxDe h ∧ PxDs h ∧ PxAs h := by
  induction h with
  | zero =>
    have hde : PxDe 0 := fun _ _ _ _ _ _ _ _ hr => hr.elim
    refine ⟨fun _ _ _ _ _ _ _ _ hr => hr.elim, fun _ _ _ _ _ _ _ _ _ hr => hr.elim, hde, pdecs_of hde, ?_⟩
    intro xs o c w B b l n d hm hl h1
    exfalso
    cases xs with
    | nil => simp at h1
    | cons x r =>
      obtain ⟨_, hf⟩ := row_mem hm (List.mem_cons_self ..)
      exact hf.elim
  | succ h ih =>
    obtain ⟨i1, i2, i3, i4, i5⟩ := ih
    have hD := pdec_step i1 i4
    exact ⟨pexp_step i1 i2 i4 i5, ppart_step i1 i2 i4 i5, hD, pdecs_of hD, palts_step i1⟩
end Go.Proofs.YteoghpefilghdakGreatDoor
namespace Go.Proofs.YteoghpefilghdakGreatDoor
open Go.ChangeShapes Go.WideShapes Go.ChangeAt Go.RowKit
set_option linter.unusedVariables false
set_option linter.unusedSimpArgs false

def TabW (w : World) : Prop := Lib.TabIs Tryz.prog w "internal/strconv.uint64pow10" .u64 Lib.pow10Tab
theorem TabW.later {w w' : World} (h : TabW w) (hb : Below w.heap.size w w') : TabW w' := Lib.tabBelow_of_tabIs h w' hb
theorem TabW.tb {w : World} (h : TabW w) : Tb w.heap.size w := Lib.tabBelow_of_tabIs h
theorem RowOf.lt {α : Type} {w : World} {R R' : α → List Value → Prop} {size : Nat} {o : Option Addr} {xs : List α} (h : RowOf AllK w R size o xs) (hR : ∀ x cs, R x cs → R' x cs) : RowOf (LtK w.heap.size) w R' size o xs := by
  intro hne
  obtain ⟨b, off, ho, -, hlt, hc⟩ := h hne
  refine ⟨b, off, ho, hlt, hlt, fun i x hx => ?_⟩
  obtain ⟨cs, h1, h2, h3⟩ := hc i x hx
  exact ⟨cs, h1, h2, hR x cs h3⟩
theorem reads_lt (w : World) : ∀ h, (∀ e cs, (reads AllK w h).ex e cs → (reads (LtK w.heap.size) w h).ex e cs) ∧ (∀ d cs, (reads AllK w h).de d cs → (reads (LtK w.heap.size) w h).de d cs) ∧ (∀ a cs, (reads AllK w h).al a cs → (reads (LtK w.heap.size) w h).al a cs) := by
  intro h
  induction h with
  | zero => exact ⟨fun _ _ h => h, fun _ _ h => h, fun _ _ h => h⟩
  | succ h ih =>
    obtain ⟨ih1, ih2, ih3⟩ := ih
    refine ⟨fun e cs he => ?_, fun d cs hd => ?_, fun a cs ha => ?_⟩
    · obtain ⟨e0, o1, c1, o2, c2, o3, c3, e1, e2, e3, e4, e5, r1, r2, r3⟩ := he
      exact ⟨e0, o1, c1, o2, c2, o3, c3, e1, e2, e3, e4, e5, r1.lt ih1, r2.lt ih2, r3.lt ih3⟩
    · obtain ⟨d0, d1, d2, e, o1, c1, ce, o2, c2, e0, e1, e2, e3, e4, r1, e5, r2, r3⟩ := hd
      exact ⟨d0, d1, d2, e, o1, c1, ce, o2, c2, e0, e1, e2, e3, e4, r1.lt (fun _ _ h => h), e5, ih1 _ _ r2, r3.lt ih2⟩
    · obtain ⟨a0, a1, a2, a3, e, o1, c1, ce, e0, e1, e2, e3, r1, e4, r2⟩ := ha
      exact ⟨a0, a1, a2, a3, e, o1, c1, ce, e0, e1, e2, e3, r1.lt (fun _ _ h => h), e4, ih1 _ _ r2⟩
theorem ne_of_len {l : List UInt8} (h : 1 ≤ l.length) : l ≠ [] := by
  intro e
  rw [e] at h
  simp at h
theorem txt_ne {h : Nat} {x : Tr} {d : Int} {n : Nat} (hok : (okz h).ex x d = true) : (txt h).ex x n ≠ [] := by
  cases h with
  | zero => cases hok
  | succ h =>
    obtain ⟨O, hh, -⟩ := ok_of hok
    rcases ok_kinds hh with ⟨k, hs, -⟩ | ⟨k, hs, -⟩ | ⟨k, h0, h1, -⟩ | ⟨k, -, -, ⟨a, b, hl⟩, -⟩ | ⟨k, -, -, ⟨a, hl⟩, -⟩ | ⟨k, -, -, ⟨a, hl⟩, -⟩ | ⟨k, -, -, ⟨a, hl⟩, -⟩ | ⟨k, -, -, ⟨a, b, c, hl⟩, -⟩ | ⟨k, -, -, ⟨a, b, hl⟩, -⟩
    · rw [txt_k1 (.inl k)]
      exact ne_of_len (nm_size hs).2
    · rw [txt_k1 (.inr k)]
      exact ne_of_len (gr_size hs).2
    · rw [txt_k3 k]
      exact ne_of_len (dec_len (by omega)).2
    · rw [txt_k4 k hl]; simp
    · rw [txt_k5 k hl]; simp
    · rw [txt_k6 k hl]; simp
    · rw [txt_k7 k hl]; simp
    · rw [txt_k8 k hl]; simp
    · rw [txt_k9 k hl]; simp

end Go.Proofs.YteoghpefilghdakGreatDoor
