/- Made of ED, EE. -/
import Derived.Test.YteoghpefilghdakGreatDoorGE
import Derived.Test.YteoghpefilghdakGreatDoorYC
namespace Go.Proofs.YteoghpefilghdakGreatDoor
open Go.ChangeShapes Go.WideShapes Go.ChangeAt Go.RowKit
set_option linter.unusedSimpArgs false
set_option linter.unusedVariables false

def SpEx (h : Nat) : Prop := ∀ (K : Nat → Prop) (x : Tr) (cs : List Value) (w : World) (n : Nat) (d : Int), (reads K w h).ex x cs → (okz h).ex x d = true → (n : Int) ≤ 60 + 4 * d → (cnt h).ex x ≤ 200 → Calls Tryz.prog 56 #[.agg cs.toArray, .int .i64 n] w fun e w' => e = .returned (.string (ofL ((txt h).ex x n))) ∧ Below w.heap.size w w'
def SpAt (h : Nat) : Prop := ∀ (K : Nat → Prop) (x : Tr) (cs : List Value) (w : World) (n : Nat) (d : Int) (lv : Nat), (reads K w h).ex x cs → (okz h).ex x d = true → (n : Int) ≤ 60 + 4 * d → (cnt h).ex x ≤ 200 → lv ≤ 5 → Calls Tryz.prog 30 #[.agg cs.toArray, .int .i64 lv, .int .i64 n] w fun e w' => e = .returned (.string (ofL (atL (txt h).ex x lv n))) ∧ Below w.heap.size w w'
def SpDe (h : Nat) : Prop := ∀ (K : Nat → Prop) (x : Tr) (cs : List Value) (w : World) (n : Nat) (d : Int), (reads K w h).de x cs → (okz h).de x d = true → (n : Int) ≤ 60 + 4 * d → (cnt h).de x ≤ 200 → Calls Tryz.prog 13 #[.agg cs.toArray, .int .i64 n] w fun e w' => e = .returned (.string (ofL (padL n ++ (txt h).de x n))) ∧ Below w.heap.size w w'
def SpDs (h : Nat) : Prop := ∀ (K : Nat → Prop) (xs : List Tr) (o : Option Addr) (c : Nat) (w : World) (n : Nat) (d : Int), RowOf K w (reads K w h).de 9 o xs → xs.length ≤ maxLen → (∀ x, x ∈ xs → (okz h).de x d = true) → d ≤ 12 → (n : Int) ≤ 60 + 4 * d → sumZ (cnt h).de xs ≤ 200 → Calls Tryz.prog 31 #[.slice o xs.length c, .int .i64 n] w fun e w' => e = .returned (.string (ofL ((linesL (txt h).de xs n).drop 1))) ∧ Below w.heap.size w w'
def SpAs (h : Nat) : Prop := ∀ (K : Nat → Prop) (xs : List Tr) (o : Option Addr) (c : Nat) (w : World) (n : Nat) (d : Int), RowOf K w (reads K w h).al 8 o xs → xs.length ≤ maxLen → 1 ≤ xs.length → (∀ x, x ∈ xs → altB x = true ∧ (okz h).al x d = true) → d ≤ 13 → (n : Int) + 2 ≤ 60 + 4 * d → sumZ (cnt h).al xs ≤ 200 → Calls Tryz.prog 84 #[.slice o xs.length c, .int .i64 n] w fun e w' => e = .returned (.string (ofL (linesL (txt h).al xs n))) ∧ Below w.heap.size w w'

theorem wrap_add {a b : Int} (h0 : 0 ≤ a) (h1 : a ≤ 1000000) (h2 : 0 ≤ b) (h3 : b ≤ 1000000) : IntKind.i64.wrap (a + b) = a + b := by rw [IntKind.wrap_i64]; omega

set_option maxHeartbeats 1000000 in
set_option maxRecDepth 100000 in
theorem at_of {h : Nat} (hE : SpEx h) : SpAt h := by
  intro K x cs w n d lv hr hok hn hc hlv
  obtain ⟨o1, c1, o2, c2, o3, c3, rfl⟩ := ex_form hr
  have hl := (txt_len K w h).ex x _ d n hr hok hn
  have HR := hide hr
  have HOK := hide hok
  have HE := hide hE
  clear hr hok hE
  have HB0 : Hid (Below w.heap.size w (w.alloc (.cells #[.int .i64 x.k, .string x.s, .int .i64 x.n, .slice o1 x.l.length c1, .slice o2 x.ds.length c2, .slice o3 x.al.length c3] 47))) := (Below.refl _ w).alloc (Nat.le_refl _) _
  have HX0 : Hid ((w.alloc (.cells #[.int .i64 x.k, .string x.s, .int .i64 x.n, .slice o1 x.l.length c1, .slice o2 x.ds.length c2, .slice o3 x.al.length c3] 47)).heap[w.heap.size]? = some (.cells #[.int .i64 x.k, .string x.s, .int .i64 x.n, .slice o1 x.l.length c1, .slice o2 x.ds.length c2, .slice o3 x.al.length c3] 47 (0, 0))) := heap_alloc_new w _
  go_enter Tryz.func30, Tryz.ntmps30
  go_wp2_with fail
  refine (HE.out K x _ _ n d ((reads_later HB0.out h).1 _ _ HR.out) HOK.out hn hc).mono ?_
  rintro e w1 ⟨rfl, hb⟩
  have HB1 := hide (HB0.out.trans (hb.mono HB0.out.size))
  have HX1 := hide ((hb.block w.heap.size (heap_lt HX0.out)).trans HX0.out)
  clear hb
  have x0 := cell_of HX1.out 0
  have x1 := cell_of HX1.out 1
  have x2 := cell_of HX1.out 2
  have x3 := cell_of HX1.out 3
  have x4 := cell_of HX1.out 4
  have x5 := cell_of HX1.out 5
  simp only [List.getElem?_toArray, List.getElem?_cons_succ, List.getElem?_cons_zero] at x0 x1 x2 x3 x4 x5
  have hz : (ofL ((txt h).ex x n)).size ≤ 200000 := by rw [ofL_size]; omega
  have HT : Hid (⟨#[40]⟩ ++ ofL ((txt h).ex x n) ++ ⟨#[41]⟩ = ofL (brL true ((txt h).ex x n))) := by
    apply eq_ofL
    rw [bl_append, bl_append, bl_ofL]
    rfl
  have HT0 : Hid (ofL ((txt h).ex x n) = ofL (brL false ((txt h).ex x n))) := rfl
  have HAT : Hid (atL (txt h).ex x lv n = brL (decide (levB x < lv)) ((txt h).ex x n)) := rfl
  generalize ofL ((txt h).ex x n) = A at HT HT0 hz ⊢
  have hz2 : (⟨#[40]⟩ ++ A).size = 1 + A.size := app_size _ _
  clear hl
  go_wp2_with fail
  refine (level_any x x.n o1 o2 o3 _ _ _ _ _ _ _).mono ?_
  rintro e w2 ⟨rfl, hb2⟩
  have HB2 := hide (HB1.out.trans (hb2.mono HB1.out.size))
  clear hb2
  by_cases hlt : levB x < lv
  · have hlt2 : ((levB x : Nat) : Int) < lv := by omega
    go_wp2
    go_ret
    exact ⟨ret_str (by rw [HT.out, HAT.out, decide_eq_true hlt]), HB2.out⟩
  · have hlt2 : ¬ ((levB x : Nat) : Int) < lv := by omega
    go_wp2
    go_ret
    exact ⟨ret_str (by rw [HT0.out, HAT.out, decide_eq_false hlt]), HB2.out⟩
set_option maxHeartbeats 2000000 in
set_option maxRecDepth 100000 in
theorem bare_4 {h : Nat} (hA : SpAt h) (hDs : SpDs h) (hAs : SpAs h) {K : Nat → Prop} {x a b : Tr} {cs : List Value} {w : World} {n : Nat} {d : Int} (hr : (reads K w (h + 1)).ex x cs) (hok : (okz (h + 1)).ex x d = true) (hn : (n : Int) ≤ 60 + 4 * d) (hc : (cnt (h + 1)).ex x ≤ 200) (hk : x.k = 4) (hl : x.l = [a, b]) : Calls Tryz.prog 56 #[.agg cs.toArray, .int .i64 n] w fun e w' => e = .returned (.string (ofL ((txt (h + 1)).ex x n))) ∧ Below w.heap.size w w' := by
  have O := (ok_of hok).1
  have hdeep := O.deep
  have hcn : (cnt (h + 1)).ex x = 1 + sumZ (cnt h).ex x.l + sumZ (cnt h).al x.al + sumZ (cnt h).de x.ds := rfl
  have aok := O.parts a (by rw [hl]; simp)
  have bok := O.parts b (by rw [hl]; simp)
  have hsum : (cnt h).ex a + (cnt h).ex b ≤ sumZ (cnt h).ex x.l := by rw [hl]; simp [sumZ]
  have ac : (cnt h).ex a ≤ 200 := by omega
  have bc : (cnt h).ex b ≤ 200 := by omega
  obtain ⟨-, o1, c1, o2, c2, o3, c3, rfl, hs, f1, f2, f3, r1, r2, r3⟩ := hr
  have hll : x.l.length = 2 := by rw [hl]; rfl
  rw [hll] at f1
  rw [hl] at r1
  have HB0 : Hid (Below w.heap.size w (w.alloc (.cells #[.int .i64 4, .string x.s, .int .i64 x.n, .slice o1 2 c1, .slice o2 x.ds.length c2, .slice o3 x.al.length c3] 47))) := (Below.refl _ w).alloc (Nat.le_refl _) _
  have HX0 : Hid ((w.alloc (.cells #[.int .i64 4, .string x.s, .int .i64 x.n, .slice o1 2 c1, .slice o2 x.ds.length c2, .slice o3 x.al.length c3] 47)).heap[w.heap.size]? = some (.cells #[.int .i64 4, .string x.s, .int .i64 x.n, .slice o1 2 c1, .slice o2 x.ds.length c2, .slice o3 x.al.length c3] 47 (0, 0))) := heap_alloc_new w _
  obtain ⟨bb, off, rfl, -, hbl, hcs⟩ := r1 (by simp)
  obtain ⟨_, -, ak, ar⟩ := hcs 0 a rfl
  obtain ⟨ao1, ag1, ao2, ag2, ao3, ag3, rfl⟩ := ex_form ar
  have aq0 := (HB0.out.cell (p := ⟨bb, _, none⟩) hbl).trans (ak 0 _ rfl)
  have aq1 := (HB0.out.cell (p := ⟨bb, _, none⟩) hbl).trans (ak 1 _ rfl)
  have aq2 := (HB0.out.cell (p := ⟨bb, _, none⟩) hbl).trans (ak 2 _ rfl)
  have aq3 := (HB0.out.cell (p := ⟨bb, _, none⟩) hbl).trans (ak 3 _ rfl)
  have aq4 := (HB0.out.cell (p := ⟨bb, _, none⟩) hbl).trans (ak 4 _ rfl)
  have aq5 := (HB0.out.cell (p := ⟨bb, _, none⟩) hbl).trans (ak 5 _ rfl)
  simp only [Nat.zero_mul, Nat.one_mul, Nat.reduceMul, Nat.add_zero, Nat.zero_add] at aq0 aq1 aq2 aq3 aq4 aq5
  have AR := hide ar
  clear ak ar
  obtain ⟨_, -, bk, br⟩ := hcs 1 b rfl
  obtain ⟨bo1, bg1, bo2, bg2, bo3, bg3, rfl⟩ := ex_form br
  have bq0 := (HB0.out.cell (p := ⟨bb, _, none⟩) hbl).trans (bk 0 _ rfl)
  have bq1 := (HB0.out.cell (p := ⟨bb, _, none⟩) hbl).trans (bk 1 _ rfl)
  have bq2 := (HB0.out.cell (p := ⟨bb, _, none⟩) hbl).trans (bk 2 _ rfl)
  have bq3 := (HB0.out.cell (p := ⟨bb, _, none⟩) hbl).trans (bk 3 _ rfl)
  have bq4 := (HB0.out.cell (p := ⟨bb, _, none⟩) hbl).trans (bk 4 _ rfl)
  have bq5 := (HB0.out.cell (p := ⟨bb, _, none⟩) hbl).trans (bk 5 _ rfl)
  simp only [Nat.zero_mul, Nat.one_mul, Nat.reduceMul, Nat.add_zero, Nat.zero_add] at bq0 bq1 bq2 bq3 bq4 bq5
  have BR := hide br
  clear bk br
  clear hcs
  have al := (txt_len K w h).ex a _ (d + 1) n AR.out aok (by omega)
  have bl := (txt_len K w h).ex b _ (d + 1) n BR.out bok (by omega)
  have la := (atL_len (txt h).ex a 4 n).1
  have lb := (atL_len (txt h).ex b 5 n).1
  have hbW : bb < (w.alloc (.cells #[.int .i64 4, .string x.s, .int .i64 x.n, .slice (some ⟨bb, off, none⟩) 2 c1, .slice o2 x.ds.length c2, .slice o3 x.al.length c3] 47)).heap.size := Nat.lt_of_lt_of_le hbl HB0.out.size
  have R2 := hide r2
  have R3 := hide r3
  have HOK := hide hok
  have HA := hide hA
  have HDS := hide hDs
  have HAS := hide hAs
  have OO := hide O
  have HK := hide hk
  have HL := hide hl
  clear r1 r2 r3 hok hA hDs hAs O hcn
  show Calls Tryz.prog 56 #[.agg #[.int .i64 x.k, .string x.s, .int .i64 x.n, .slice _ x.l.length c1, .slice o2 x.ds.length c2, .slice o3 x.al.length c3], .int .i64 n] w _
  rw [hk, hll]
  clear hk hl hll
  go_enter Tryz.func56, Tryz.ntmps56
  go_wp2_with fail
  generalize (w.alloc (.cells #[.int .i64 4, .string x.s, .int .i64 x.n, .slice (some ⟨bb, off, none⟩) 2 c1, .slice o2 x.ds.length c2, .slice o3 x.al.length c3] 47)) = W at *
  have xs1 := later_cell (j := 1) HX0.out rfl
  have xs3 := later_cell (j := 3) HX0.out rfl
  have xs4 := later_cell (j := 4) HX0.out rfl
  have xs5 := later_cell (j := 5) HX0.out rfl
  have hne0 : Nonempty (Later W) := later_nonempty W
  have am0 : ∀ q : Later W, q.w.cell? ⟨bb, off, none⟩ = _ := fun q => (q.h.cell (p := ⟨bb, off, none⟩) hbW).trans aq0
  have am1 : ∀ q : Later W, q.w.cell? ⟨bb, off + 1, none⟩ = _ := fun q => (q.h.cell (p := ⟨bb, off + 1, none⟩) hbW).trans aq1
  have am2 : ∀ q : Later W, q.w.cell? ⟨bb, off + 2, none⟩ = _ := fun q => (q.h.cell (p := ⟨bb, off + 2, none⟩) hbW).trans aq2
  have am3 : ∀ q : Later W, q.w.cell? ⟨bb, off + 3, none⟩ = _ := fun q => (q.h.cell (p := ⟨bb, off + 3, none⟩) hbW).trans aq3
  have am4 : ∀ q : Later W, q.w.cell? ⟨bb, off + 4, none⟩ = _ := fun q => (q.h.cell (p := ⟨bb, off + 4, none⟩) hbW).trans aq4
  have am5 : ∀ q : Later W, q.w.cell? ⟨bb, off + 5, none⟩ = _ := fun q => (q.h.cell (p := ⟨bb, off + 5, none⟩) hbW).trans aq5
  clear aq0 aq1 aq2 aq3 aq4 aq5
  have bm0 : ∀ q : Later W, q.w.cell? ⟨bb, off + 6, none⟩ = _ := fun q => (q.h.cell (p := ⟨bb, off + 6, none⟩) hbW).trans bq0
  have bm1 : ∀ q : Later W, q.w.cell? ⟨bb, off + 6 + 1, none⟩ = _ := fun q => (q.h.cell (p := ⟨bb, off + 6 + 1, none⟩) hbW).trans bq1
  have bm2 : ∀ q : Later W, q.w.cell? ⟨bb, off + 6 + 2, none⟩ = _ := fun q => (q.h.cell (p := ⟨bb, off + 6 + 2, none⟩) hbW).trans bq2
  have bm3 : ∀ q : Later W, q.w.cell? ⟨bb, off + 6 + 3, none⟩ = _ := fun q => (q.h.cell (p := ⟨bb, off + 6 + 3, none⟩) hbW).trans bq3
  have bm4 : ∀ q : Later W, q.w.cell? ⟨bb, off + 6 + 4, none⟩ = _ := fun q => (q.h.cell (p := ⟨bb, off + 6 + 4, none⟩) hbW).trans bq4
  have bm5 : ∀ q : Later W, q.w.cell? ⟨bb, off + 6 + 5, none⟩ = _ := fun q => (q.h.cell (p := ⟨bb, off + 6 + 5, none⟩) hbW).trans bq5
  clear bq0 bq1 bq2 bq3 bq4 bq5
  have C1 : Hid (∀ q : Later W, Calls Tryz.prog 30 #[.agg #[.int .i64 a.k, .string a.s, .int .i64 a.n, .slice ao1 a.l.length ag1, .slice ao2 a.ds.length ag2, .slice ao3 a.al.length ag3], .int .i64 4, .int .i64 n] q.w fun e w' => e = .returned (.string (ofL (atL (txt h).ex a 4 n))) ∧ Below q.w.heap.size q.w w') := fun q => HA.out K a _ q.w n (d + 1) 4 ((reads_later (HB0.out.trans (q.h.mono HB0.out.size)) h).1 _ _ AR.out) aok (by omega) ac (by omega)
  have C2 : Hid (∀ q : Later W, Calls Tryz.prog 30 #[.agg #[.int .i64 b.k, .string b.s, .int .i64 b.n, .slice bo1 b.l.length bg1, .slice bo2 b.ds.length bg2, .slice bo3 b.al.length bg3], .int .i64 5, .int .i64 n] q.w fun e w' => e = .returned (.string (ofL (atL (txt h).ex b 5 n))) ∧ Below q.w.heap.size q.w w') := fun q => HA.out K b _ q.w n (d + 1) 5 ((reads_later (HB0.out.trans (q.h.mono HB0.out.size)) h).1 _ _ BR.out) bok (by omega) bc (by omega)
  have HRES : Hid (ofL (atL (txt h).ex a 4 n) ++ ⟨#[32]⟩ ++ ofL (atL (txt h).ex b 5 n) = ofL ((txt (h + 1)).ex x n)) := by
    apply eq_ofL
    rw [txt_k4 HK.out HL.out]
    simp only [bl_append, bl_ofL, bl_mk, at_zero, List.append_assoc, List.cons_append, List.nil_append]
  have Az : (ofL (atL (txt h).ex a 4 n)).size ≤ 250000 := by rw [ofL_size]; omega
  generalize ofL (atL (txt h).ex a 4 n) = A at C1 HRES Az
  have Bz : (ofL (atL (txt h).ex b 5 n)).size ≤ 250000 := by rw [ofL_size]; omega
  generalize ofL (atL (txt h).ex b 5 n) = B at C2 HRES Bz
  have z1 : (A ++ ⟨#[32]⟩).size = A.size + 1 := app_size _ _
  refine wp_region_class (S := fun v => Below W.heap.size W v) (by kernel_rfl) (by kernel_rfl) (below_drew _) ?_
  repeat (first | go_big_quiet_skip | (go_big_quiet_want; go_big_quiet_op; first | go_big_quiet_on | (apply Exists.intro; refine ⟨fun q => ?_, ?_⟩; (first | (go_at_call 30; with_reducible refine (C1.out q).mono ?_; rintro e w9 ⟨rfl, hb9⟩; exact ⟨rfl, Later.on q hb9, rfl⟩) | (go_at_call 30; with_reducible refine (C2.out q).mono ?_; rintro e w9 ⟨rfl, hb9⟩; exact ⟨rfl, Later.on q hb9, rfl⟩)); go_big_quiet_on)))
  refine wpQuiet_nil ?_
  intro _ hw'
  obtain ⟨q, rfl⟩ := hw'
  go_wp2
  go_ret
  exact ⟨ret_str HRES.out, HB0.out.trans (q.h.mono HB0.out.size)⟩
set_option maxHeartbeats 2000000 in
set_option maxRecDepth 100000 in
theorem bare_1 {h : Nat} {K : Nat → Prop} {x : Tr} {cs : List Value} {w : World} {n : Nat} (hr : (reads K w (h + 1)).ex x cs) (hk : x.k = 1) : Calls Tryz.prog 56 #[.agg cs.toArray, .int .i64 n] w fun e w' => e = .returned (.string (ofL ((txt (h + 1)).ex x n))) ∧ Below w.heap.size w w' := by
  obtain ⟨o1, c1, o2, c2, o3, c3, rfl⟩ := ex_form hr
  have HB0 : Hid (Below w.heap.size w (w.alloc (.cells #[.int .i64 1, .string x.s, .int .i64 x.n, .slice o1 x.l.length c1, .slice o2 x.ds.length c2, .slice o3 x.al.length c3] 47))) := (Below.refl _ w).alloc (Nat.le_refl _) _
  have HK := hide hk
  show Calls Tryz.prog 56 #[.agg #[.int .i64 x.k, .string x.s, .int .i64 x.n, .slice o1 x.l.length c1, .slice o2 x.ds.length c2, .slice o3 x.al.length c3], .int .i64 n] w _
  rw [hk]
  clear hk hr
  go_enter Tryz.func56, Tryz.ntmps56
  go_wp2
  go_ret
  exact ⟨ret_str (by rw [txt_k1 (.inl HK.out), ofL_bl]), HB0.out⟩
set_option maxHeartbeats 2000000 in
set_option maxRecDepth 100000 in
theorem bare_2 {h : Nat} {K : Nat → Prop} {x : Tr} {cs : List Value} {w : World} {n : Nat} (hr : (reads K w (h + 1)).ex x cs) (hk : x.k = 2) : Calls Tryz.prog 56 #[.agg cs.toArray, .int .i64 n] w fun e w' => e = .returned (.string (ofL ((txt (h + 1)).ex x n))) ∧ Below w.heap.size w w' := by
  obtain ⟨o1, c1, o2, c2, o3, c3, rfl⟩ := ex_form hr
  have HB0 : Hid (Below w.heap.size w (w.alloc (.cells #[.int .i64 2, .string x.s, .int .i64 x.n, .slice o1 x.l.length c1, .slice o2 x.ds.length c2, .slice o3 x.al.length c3] 47))) := (Below.refl _ w).alloc (Nat.le_refl _) _
  have HK := hide hk
  show Calls Tryz.prog 56 #[.agg #[.int .i64 x.k, .string x.s, .int .i64 x.n, .slice o1 x.l.length c1, .slice o2 x.ds.length c2, .slice o3 x.al.length c3], .int .i64 n] w _
  rw [hk]
  clear hk hr
  go_enter Tryz.func56, Tryz.ntmps56
  go_wp2
  go_ret
  exact ⟨ret_str (by rw [txt_k1 (.inr HK.out), ofL_bl]), HB0.out⟩
set_option maxHeartbeats 2000000 in
set_option maxRecDepth 100000 in
theorem bare_3 {h : Nat} {K : Nat → Prop} {x : Tr} {cs : List Value} {w : World} {n : Nat} (hr : (reads K w (h + 1)).ex x cs) (hk : x.k = 3) (h0 : 0 ≤ x.n) (h1 : x.n ≤ 999999) : Calls Tryz.prog 56 #[.agg cs.toArray, .int .i64 n] w fun e w' => e = .returned (.string (ofL ((txt (h + 1)).ex x n))) ∧ Below w.heap.size w w' := by
  obtain ⟨o1, c1, o2, c2, o3, c3, rfl⟩ := ex_form hr
  have HB0 : Hid (Below w.heap.size w (w.alloc (.cells #[.int .i64 3, .string x.s, .int .i64 x.n, .slice o1 x.l.length c1, .slice o2 x.ds.length c2, .slice o3 x.al.length c3] 47))) := (Below.refl _ w).alloc (Nat.le_refl _) _
  have HK := hide hk
  show Calls Tryz.prog 56 #[.agg #[.int .i64 x.k, .string x.s, .int .i64 x.n, .slice o1 x.l.length c1, .slice o2 x.ds.length c2, .slice o3 x.al.length c3], .int .i64 n] w _
  rw [hk]
  clear hk hr
  obtain ⟨m, hm⟩ : ∃ m : Nat, x.n = m := ⟨x.n.toNat, by omega⟩
  have HM := hide hm
  rw [hm]
  rw [hm] at HB0
  have hm2 : m ≤ 999999 := by omega
  clear hm
  go_enter Tryz.func56, Tryz.ntmps56
  go_wp2_with fail
  refine (num_any 6 m _ (by omega) hm2).mono ?_
  rintro e w1 ⟨rfl, hb⟩
  have HB1 := hide (HB0.out.trans (hb.mono HB0.out.size))
  clear hb
  go_wp2
  go_ret
  exact ⟨ret_str (by rw [txt_k3 HK.out, HM.out]; rfl), HB1.out⟩
set_option maxHeartbeats 2000000 in
set_option maxRecDepth 100000 in
theorem bare_5 {h : Nat} (hA : SpAt h) (hDs : SpDs h) (hAs : SpAs h) {K : Nat → Prop} {x a : Tr} {cs : List Value} {w : World} {n : Nat} {d : Int} (hr : (reads K w (h + 1)).ex x cs) (hok : (okz (h + 1)).ex x d = true) (hn : (n : Int) ≤ 60 + 4 * d) (hc : (cnt (h + 1)).ex x ≤ 200) (hk : x.k = 5) (hl : x.l = [a]) (hsz : x.s.size ≤ 8) : Calls Tryz.prog 56 #[.agg cs.toArray, .int .i64 n] w fun e w' => e = .returned (.string (ofL ((txt (h + 1)).ex x n))) ∧ Below w.heap.size w w' := by
  have O := (ok_of hok).1
  have hdeep := O.deep
  have hcn : (cnt (h + 1)).ex x = 1 + sumZ (cnt h).ex x.l + sumZ (cnt h).al x.al + sumZ (cnt h).de x.ds := rfl
  have aok := O.parts a (by rw [hl]; simp)
  have hsum : (cnt h).ex a ≤ sumZ (cnt h).ex x.l := by rw [hl]; simp [sumZ]
  have ac : (cnt h).ex a ≤ 200 := by omega
  obtain ⟨-, o1, c1, o2, c2, o3, c3, rfl, hs, f1, f2, f3, r1, r2, r3⟩ := hr
  have hll : x.l.length = 1 := by rw [hl]; rfl
  rw [hll] at f1
  rw [hl] at r1
  have HB0 : Hid (Below w.heap.size w (w.alloc (.cells #[.int .i64 5, .string x.s, .int .i64 x.n, .slice o1 1 c1, .slice o2 x.ds.length c2, .slice o3 x.al.length c3] 47))) := (Below.refl _ w).alloc (Nat.le_refl _) _
  have HX0 : Hid ((w.alloc (.cells #[.int .i64 5, .string x.s, .int .i64 x.n, .slice o1 1 c1, .slice o2 x.ds.length c2, .slice o3 x.al.length c3] 47)).heap[w.heap.size]? = some (.cells #[.int .i64 5, .string x.s, .int .i64 x.n, .slice o1 1 c1, .slice o2 x.ds.length c2, .slice o3 x.al.length c3] 47 (0, 0))) := heap_alloc_new w _
  obtain ⟨bb, off, rfl, -, hbl, hcs⟩ := r1 (by simp)
  obtain ⟨_, -, ak, ar⟩ := hcs 0 a rfl
  obtain ⟨ao1, ag1, ao2, ag2, ao3, ag3, rfl⟩ := ex_form ar
  have aq0 := (HB0.out.cell (p := ⟨bb, _, none⟩) hbl).trans (ak 0 _ rfl)
  have aq1 := (HB0.out.cell (p := ⟨bb, _, none⟩) hbl).trans (ak 1 _ rfl)
  have aq2 := (HB0.out.cell (p := ⟨bb, _, none⟩) hbl).trans (ak 2 _ rfl)
  have aq3 := (HB0.out.cell (p := ⟨bb, _, none⟩) hbl).trans (ak 3 _ rfl)
  have aq4 := (HB0.out.cell (p := ⟨bb, _, none⟩) hbl).trans (ak 4 _ rfl)
  have aq5 := (HB0.out.cell (p := ⟨bb, _, none⟩) hbl).trans (ak 5 _ rfl)
  simp only [Nat.zero_mul, Nat.one_mul, Nat.reduceMul, Nat.add_zero, Nat.zero_add] at aq0 aq1 aq2 aq3 aq4 aq5
  have AR := hide ar
  clear ak ar
  clear hcs
  have al := (txt_len K w h).ex a _ (d + 1) n AR.out aok (by omega)
  have hbW : bb < (w.alloc (.cells #[.int .i64 5, .string x.s, .int .i64 x.n, .slice (some ⟨bb, off, none⟩) 1 c1, .slice o2 x.ds.length c2, .slice o3 x.al.length c3] 47)).heap.size := Nat.lt_of_lt_of_le hbl HB0.out.size
  have R2 := hide r2
  have R3 := hide r3
  have HOK := hide hok
  have HA := hide hA
  have HDS := hide hDs
  have HAS := hide hAs
  have OO := hide O
  have HK := hide hk
  have HL := hide hl
  clear r1 r2 r3 hok hA hDs hAs O hcn
  show Calls Tryz.prog 56 #[.agg #[.int .i64 x.k, .string x.s, .int .i64 x.n, .slice _ x.l.length c1, .slice o2 x.ds.length c2, .slice o3 x.al.length c3], .int .i64 n] w _
  rw [hk, hll]
  clear hk hl hll
  go_enter Tryz.func56, Tryz.ntmps56
  go_wp2_with fail
  generalize (w.alloc (.cells #[.int .i64 5, .string x.s, .int .i64 x.n, .slice (some ⟨bb, off, none⟩) 1 c1, .slice o2 x.ds.length c2, .slice o3 x.al.length c3] 47)) = W at *
  have xs1 := later_cell (j := 1) HX0.out rfl
  have xs3 := later_cell (j := 3) HX0.out rfl
  have xs4 := later_cell (j := 4) HX0.out rfl
  have xs5 := later_cell (j := 5) HX0.out rfl
  have hne0 : Nonempty (Later W) := later_nonempty W
  have am0 : ∀ q : Later W, q.w.cell? ⟨bb, off, none⟩ = _ := fun q => (q.h.cell (p := ⟨bb, off, none⟩) hbW).trans aq0
  have am1 : ∀ q : Later W, q.w.cell? ⟨bb, off + 1, none⟩ = _ := fun q => (q.h.cell (p := ⟨bb, off + 1, none⟩) hbW).trans aq1
  have am2 : ∀ q : Later W, q.w.cell? ⟨bb, off + 2, none⟩ = _ := fun q => (q.h.cell (p := ⟨bb, off + 2, none⟩) hbW).trans aq2
  have am3 : ∀ q : Later W, q.w.cell? ⟨bb, off + 3, none⟩ = _ := fun q => (q.h.cell (p := ⟨bb, off + 3, none⟩) hbW).trans aq3
  have am4 : ∀ q : Later W, q.w.cell? ⟨bb, off + 4, none⟩ = _ := fun q => (q.h.cell (p := ⟨bb, off + 4, none⟩) hbW).trans aq4
  have am5 : ∀ q : Later W, q.w.cell? ⟨bb, off + 5, none⟩ = _ := fun q => (q.h.cell (p := ⟨bb, off + 5, none⟩) hbW).trans aq5
  clear aq0 aq1 aq2 aq3 aq4 aq5
  have hs8 : x.s.size ≤ 8 := hsz
  have C1 : Hid (∀ q : Later W, Calls Tryz.prog 30 #[.agg #[.int .i64 a.k, .string a.s, .int .i64 a.n, .slice ao1 a.l.length ag1, .slice ao2 a.ds.length ag2, .slice ao3 a.al.length ag3], .int .i64 0, .int .i64 n] q.w fun e w' => e = .returned (.string (ofL (atL (txt h).ex a 0 n))) ∧ Below q.w.heap.size q.w w') := fun q => HA.out K a _ q.w n (d + 1) 0 ((reads_later (HB0.out.trans (q.h.mono HB0.out.size)) h).1 _ _ AR.out) aok (by omega) ac (by omega)
  rw [at_zero] at C1
  have HRES : Hid (⟨#[92]⟩ ++ x.s ++ ⟨#[32, 45, 62, 32]⟩ ++ ofL ((txt h).ex a n) = ofL ((txt (h + 1)).ex x n)) := by
    apply eq_ofL
    rw [txt_k5 HK.out HL.out]
    simp only [bl_append, bl_ofL, bl_mk, at_zero, List.append_assoc, List.cons_append, List.nil_append]
  have Az : (ofL ((txt h).ex a n)).size ≤ 250000 := by rw [ofL_size]; omega
  generalize ofL ((txt h).ex a n) = A at C1 HRES Az
  have z1 : (⟨#[92]⟩ ++ x.s).size = 1 + x.s.size := app_size _ _
  have z2 : (⟨#[92]⟩ ++ x.s ++ ⟨#[32, 45, 62, 32]⟩).size = 1 + x.s.size + 4 := (app_size _ _).trans (by rw [z1]; rfl)
  refine wp_region_class (S := fun v => Below W.heap.size W v) (by kernel_rfl) (by kernel_rfl) (below_drew _) ?_
  repeat (first | go_big_quiet_skip | (go_big_quiet_want; go_big_quiet_op; first | go_big_quiet_on | (apply Exists.intro; refine ⟨fun q => ?_, ?_⟩; (first | (go_at_call 30; with_reducible refine (C1.out q).mono ?_; rintro e w9 ⟨rfl, hb9⟩; exact ⟨rfl, Later.on q hb9, rfl⟩)); go_big_quiet_on)))
  refine wpQuiet_nil ?_
  intro _ hw'
  obtain ⟨q, rfl⟩ := hw'
  go_wp2
  go_ret
  exact ⟨ret_str HRES.out, HB0.out.trans (q.h.mono HB0.out.size)⟩
set_option maxHeartbeats 2000000 in
set_option maxRecDepth 100000 in
theorem bare_7 {h : Nat} (hA : SpAt h) (hDs : SpDs h) (hAs : SpAs h) {K : Nat → Prop} {x a : Tr} {cs : List Value} {w : World} {n : Nat} {d : Int} (hr : (reads K w (h + 1)).ex x cs) (hok : (okz (h + 1)).ex x d = true) (hn : (n : Int) ≤ 60 + 4 * d) (hc : (cnt (h + 1)).ex x ≤ 200) (hk : x.k = 7) (hl : x.l = [a]) (hal1 : 1 ≤ x.al.length) : Calls Tryz.prog 56 #[.agg cs.toArray, .int .i64 n] w fun e w' => e = .returned (.string (ofL ((txt (h + 1)).ex x n))) ∧ Below w.heap.size w w' := by
  have O := (ok_of hok).1
  have hdeep := O.deep
  have hcn : (cnt (h + 1)).ex x = 1 + sumZ (cnt h).ex x.l + sumZ (cnt h).al x.al + sumZ (cnt h).de x.ds := rfl
  have aok := O.parts a (by rw [hl]; simp)
  have hsum : (cnt h).ex a ≤ sumZ (cnt h).ex x.l := by rw [hl]; simp [sumZ]
  have ac : (cnt h).ex a ≤ 200 := by omega
  obtain ⟨-, o1, c1, o2, c2, o3, c3, rfl, hs, f1, f2, f3, r1, r2, r3⟩ := hr
  have hll : x.l.length = 1 := by rw [hl]; rfl
  rw [hll] at f1
  rw [hl] at r1
  have HB0 : Hid (Below w.heap.size w (w.alloc (.cells #[.int .i64 7, .string x.s, .int .i64 x.n, .slice o1 1 c1, .slice o2 x.ds.length c2, .slice o3 x.al.length c3] 47))) := (Below.refl _ w).alloc (Nat.le_refl _) _
  have HX0 : Hid ((w.alloc (.cells #[.int .i64 7, .string x.s, .int .i64 x.n, .slice o1 1 c1, .slice o2 x.ds.length c2, .slice o3 x.al.length c3] 47)).heap[w.heap.size]? = some (.cells #[.int .i64 7, .string x.s, .int .i64 x.n, .slice o1 1 c1, .slice o2 x.ds.length c2, .slice o3 x.al.length c3] 47 (0, 0))) := heap_alloc_new w _
  obtain ⟨bb, off, rfl, -, hbl, hcs⟩ := r1 (by simp)
  obtain ⟨_, -, ak, ar⟩ := hcs 0 a rfl
  obtain ⟨ao1, ag1, ao2, ag2, ao3, ag3, rfl⟩ := ex_form ar
  have aq0 := (HB0.out.cell (p := ⟨bb, _, none⟩) hbl).trans (ak 0 _ rfl)
  have aq1 := (HB0.out.cell (p := ⟨bb, _, none⟩) hbl).trans (ak 1 _ rfl)
  have aq2 := (HB0.out.cell (p := ⟨bb, _, none⟩) hbl).trans (ak 2 _ rfl)
  have aq3 := (HB0.out.cell (p := ⟨bb, _, none⟩) hbl).trans (ak 3 _ rfl)
  have aq4 := (HB0.out.cell (p := ⟨bb, _, none⟩) hbl).trans (ak 4 _ rfl)
  have aq5 := (HB0.out.cell (p := ⟨bb, _, none⟩) hbl).trans (ak 5 _ rfl)
  simp only [Nat.zero_mul, Nat.one_mul, Nat.reduceMul, Nat.add_zero, Nat.zero_add] at aq0 aq1 aq2 aq3 aq4 aq5
  have AR := hide ar
  clear ak ar
  clear hcs
  have al := (txt_len K w h).ex a _ (d + 1) n AR.out aok (by omega)
  have la := (atL_len (txt h).ex a 1 n).1
  have hal : sumZ (cnt h).al x.al ≤ 200 := by omega
  have ll := linesL_len (txt h).al (cnt h).al x.al (n + 2) (by omega) fun y hy => by
    obtain ⟨cs, hc⟩ := row_mem r3 hy
    exact (txt_len K w h).al y cs (d + 1) (n + 2) hc (O.alts y hy).1 (O.alts y hy).2 (by omega)
  have hbW : bb < (w.alloc (.cells #[.int .i64 7, .string x.s, .int .i64 x.n, .slice (some ⟨bb, off, none⟩) 1 c1, .slice o2 x.ds.length c2, .slice o3 x.al.length c3] 47)).heap.size := Nat.lt_of_lt_of_le hbl HB0.out.size
  have R2 := hide r2
  have R3 := hide r3
  have HOK := hide hok
  have HA := hide hA
  have HDS := hide hDs
  have HAS := hide hAs
  have OO := hide O
  have HK := hide hk
  have HL := hide hl
  clear r1 r2 r3 hok hA hDs hAs O hcn
  show Calls Tryz.prog 56 #[.agg #[.int .i64 x.k, .string x.s, .int .i64 x.n, .slice _ x.l.length c1, .slice o2 x.ds.length c2, .slice o3 x.al.length c3], .int .i64 n] w _
  rw [hk, hll]
  clear hk hl hll
  go_enter Tryz.func56, Tryz.ntmps56
  go_wp2_with fail
  generalize (w.alloc (.cells #[.int .i64 7, .string x.s, .int .i64 x.n, .slice (some ⟨bb, off, none⟩) 1 c1, .slice o2 x.ds.length c2, .slice o3 x.al.length c3] 47)) = W at *
  have xs1 := later_cell (j := 1) HX0.out rfl
  have xs3 := later_cell (j := 3) HX0.out rfl
  have xs4 := later_cell (j := 4) HX0.out rfl
  have xs5 := later_cell (j := 5) HX0.out rfl
  have hne0 : Nonempty (Later W) := later_nonempty W
  have am0 : ∀ q : Later W, q.w.cell? ⟨bb, off, none⟩ = _ := fun q => (q.h.cell (p := ⟨bb, off, none⟩) hbW).trans aq0
  have am1 : ∀ q : Later W, q.w.cell? ⟨bb, off + 1, none⟩ = _ := fun q => (q.h.cell (p := ⟨bb, off + 1, none⟩) hbW).trans aq1
  have am2 : ∀ q : Later W, q.w.cell? ⟨bb, off + 2, none⟩ = _ := fun q => (q.h.cell (p := ⟨bb, off + 2, none⟩) hbW).trans aq2
  have am3 : ∀ q : Later W, q.w.cell? ⟨bb, off + 3, none⟩ = _ := fun q => (q.h.cell (p := ⟨bb, off + 3, none⟩) hbW).trans aq3
  have am4 : ∀ q : Later W, q.w.cell? ⟨bb, off + 4, none⟩ = _ := fun q => (q.h.cell (p := ⟨bb, off + 4, none⟩) hbW).trans aq4
  have am5 : ∀ q : Later W, q.w.cell? ⟨bb, off + 5, none⟩ = _ := fun q => (q.h.cell (p := ⟨bb, off + 5, none⟩) hbW).trans aq5
  clear aq0 aq1 aq2 aq3 aq4 aq5
  have C1 : Hid (∀ q : Later W, Calls Tryz.prog 30 #[.agg #[.int .i64 a.k, .string a.s, .int .i64 a.n, .slice ao1 a.l.length ag1, .slice ao2 a.ds.length ag2, .slice ao3 a.al.length ag3], .int .i64 1, .int .i64 n] q.w fun e w' => e = .returned (.string (ofL (atL (txt h).ex a 1 n))) ∧ Below q.w.heap.size q.w w') := fun q => HA.out K a _ q.w n (d + 1) 1 ((reads_later (HB0.out.trans (q.h.mono HB0.out.size)) h).1 _ _ AR.out) aok (by omega) ac (by omega)
  have wn : IntKind.i64.wrap ((n : Int) + 2) = (n : Int) + 2 := wrap_add (by omega) (by omega) (by omega) (by omega)
  have C2 : Hid (∀ q : Later W, Calls Tryz.prog 84 #[.slice o3 x.al.length c3, .int .i64 ((n : Int) + 2)] q.w fun e w' => e = .returned (.string (ofL (linesL (txt h).al x.al (n + 2)))) ∧ Below q.w.heap.size q.w w') := fun q => HAS.out K x.al o3 c3 q.w (n + 2) (d + 1) (R3.out.later (HB0.out.trans (q.h.mono HB0.out.size)) (reads_later (HB0.out.trans (q.h.mono HB0.out.size)) h).2.2) f3.1 hal1 OO.out.alts (by omega) (by omega) hal
  have HRES : Hid (⟨#[99, 97, 115, 101, 32]⟩ ++ ofL (atL (txt h).ex a 1 n) ++ ⟨#[32, 111, 102]⟩ ++ ofL (linesL (txt h).al x.al (n + 2)) = ofL ((txt (h + 1)).ex x n)) := by
    apply eq_ofL
    rw [txt_k7 HK.out HL.out]
    simp only [bl_append, bl_ofL, bl_mk, at_zero, List.append_assoc, List.cons_append, List.nil_append]
  have Az : (ofL (atL (txt h).ex a 1 n)).size ≤ 250000 := by rw [ofL_size]; omega
  generalize ofL (atL (txt h).ex a 1 n) = A at C1 HRES Az
  have Bz : (ofL (linesL (txt h).al x.al (n + 2))).size ≤ 250000 := by rw [ofL_size]; omega
  generalize ofL (linesL (txt h).al x.al (n + 2)) = B at C2 HRES Bz
  have z1 : (⟨#[99, 97, 115, 101, 32]⟩ ++ A).size = 5 + A.size := app_size _ _
  have z2 : (⟨#[99, 97, 115, 101, 32]⟩ ++ A ++ ⟨#[32, 111, 102]⟩).size = 5 + A.size + 3 := (app_size _ _).trans (by rw [z1]; rfl)
  refine wp_region_class (S := fun v => Below W.heap.size W v) (by kernel_rfl) (by kernel_rfl) (below_drew _) ?_
  repeat (first | go_big_quiet_skip | (go_big_quiet_want; go_big_quiet_op; first | go_big_quiet_on | (apply Exists.intro; refine ⟨fun q => ?_, ?_⟩; (first | (go_at_call 30; with_reducible refine (C1.out q).mono ?_; rintro e w9 ⟨rfl, hb9⟩; exact ⟨rfl, Later.on q hb9, rfl⟩) | (go_at_call 84; with_reducible refine (C2.out q).mono ?_; rintro e w9 ⟨rfl, hb9⟩; exact ⟨rfl, Later.on q hb9, rfl⟩)); go_big_quiet_on)))
  refine wpQuiet_nil ?_
  intro _ hw'
  obtain ⟨q, rfl⟩ := hw'
  go_wp2
  go_ret
  exact ⟨ret_str HRES.out, HB0.out.trans (q.h.mono HB0.out.size)⟩
set_option maxHeartbeats 2000000 in
set_option maxRecDepth 100000 in
theorem bare_6 {h : Nat} (hA : SpAt h) (hDs : SpDs h) (hAs : SpAs h) {K : Nat → Prop} {x a : Tr} {cs : List Value} {w : World} {n : Nat} {d : Int} (hr : (reads K w (h + 1)).ex x cs) (hok : (okz (h + 1)).ex x d = true) (hn : (n : Int) ≤ 60 + 4 * d) (hc : (cnt (h + 1)).ex x ≤ 200) (hk : x.k = 6) (hl : x.l = [a]) (hd12 : d + 1 ≤ 12) : Calls Tryz.prog 56 #[.agg cs.toArray, .int .i64 n] w fun e w' => e = .returned (.string (ofL ((txt (h + 1)).ex x n))) ∧ Below w.heap.size w w' := by
  have O := (ok_of hok).1
  have hdeep := O.deep
  have hcn : (cnt (h + 1)).ex x = 1 + sumZ (cnt h).ex x.l + sumZ (cnt h).al x.al + sumZ (cnt h).de x.ds := rfl
  have aok := O.parts a (by rw [hl]; simp)
  have hsum : (cnt h).ex a ≤ sumZ (cnt h).ex x.l := by rw [hl]; simp [sumZ]
  have ac : (cnt h).ex a ≤ 200 := by omega
  obtain ⟨-, o1, c1, o2, c2, o3, c3, rfl, hs, f1, f2, f3, r1, r2, r3⟩ := hr
  have hll : x.l.length = 1 := by rw [hl]; rfl
  rw [hll] at f1
  rw [hl] at r1
  have HB0 : Hid (Below w.heap.size w (w.alloc (.cells #[.int .i64 6, .string x.s, .int .i64 x.n, .slice o1 1 c1, .slice o2 x.ds.length c2, .slice o3 x.al.length c3] 47))) := (Below.refl _ w).alloc (Nat.le_refl _) _
  have HX0 : Hid ((w.alloc (.cells #[.int .i64 6, .string x.s, .int .i64 x.n, .slice o1 1 c1, .slice o2 x.ds.length c2, .slice o3 x.al.length c3] 47)).heap[w.heap.size]? = some (.cells #[.int .i64 6, .string x.s, .int .i64 x.n, .slice o1 1 c1, .slice o2 x.ds.length c2, .slice o3 x.al.length c3] 47 (0, 0))) := heap_alloc_new w _
  obtain ⟨bb, off, rfl, -, hbl, hcs⟩ := r1 (by simp)
  obtain ⟨_, -, ak, ar⟩ := hcs 0 a rfl
  obtain ⟨ao1, ag1, ao2, ag2, ao3, ag3, rfl⟩ := ex_form ar
  have aq0 := (HB0.out.cell (p := ⟨bb, _, none⟩) hbl).trans (ak 0 _ rfl)
  have aq1 := (HB0.out.cell (p := ⟨bb, _, none⟩) hbl).trans (ak 1 _ rfl)
  have aq2 := (HB0.out.cell (p := ⟨bb, _, none⟩) hbl).trans (ak 2 _ rfl)
  have aq3 := (HB0.out.cell (p := ⟨bb, _, none⟩) hbl).trans (ak 3 _ rfl)
  have aq4 := (HB0.out.cell (p := ⟨bb, _, none⟩) hbl).trans (ak 4 _ rfl)
  have aq5 := (HB0.out.cell (p := ⟨bb, _, none⟩) hbl).trans (ak 5 _ rfl)
  simp only [Nat.zero_mul, Nat.one_mul, Nat.reduceMul, Nat.add_zero, Nat.zero_add] at aq0 aq1 aq2 aq3 aq4 aq5
  have AR := hide ar
  clear ak ar
  clear hcs
  have al := (txt_len K w h).ex a _ (d + 1) n AR.out aok (by omega)
  have hds : sumZ (cnt h).de x.ds ≤ 200 := by omega
  have DD := hide (decs_of ((ok_of hok).2.2.resolve_left fun hc => hc hk))
  have ll := linesL_len (txt h).de (cnt h).de x.ds (n + 2) (by omega) fun y hy => by
    obtain ⟨cs, hc⟩ := row_mem r2 hy
    exact (txt_len K w h).de y cs (d + 1) (n + 2) hc (DD.out.2 y hy) (by omega)
  have lp := padL_len n
  have hbW : bb < (w.alloc (.cells #[.int .i64 6, .string x.s, .int .i64 x.n, .slice (some ⟨bb, off, none⟩) 1 c1, .slice o2 x.ds.length c2, .slice o3 x.al.length c3] 47)).heap.size := Nat.lt_of_lt_of_le hbl HB0.out.size
  have R2 := hide r2
  have R3 := hide r3
  have HOK := hide hok
  have HA := hide hA
  have HDS := hide hDs
  have HAS := hide hAs
  have OO := hide O
  have HK := hide hk
  have HL := hide hl
  clear r1 r2 r3 hok hA hDs hAs O hcn
  show Calls Tryz.prog 56 #[.agg #[.int .i64 x.k, .string x.s, .int .i64 x.n, .slice _ x.l.length c1, .slice o2 x.ds.length c2, .slice o3 x.al.length c3], .int .i64 n] w _
  rw [hk, hll]
  clear hk hl hll
  go_enter Tryz.func56, Tryz.ntmps56
  go_wp2_with fail
  generalize (w.alloc (.cells #[.int .i64 6, .string x.s, .int .i64 x.n, .slice (some ⟨bb, off, none⟩) 1 c1, .slice o2 x.ds.length c2, .slice o3 x.al.length c3] 47)) = W at *
  have xs1 := later_cell (j := 1) HX0.out rfl
  have xs3 := later_cell (j := 3) HX0.out rfl
  have xs4 := later_cell (j := 4) HX0.out rfl
  have xs5 := later_cell (j := 5) HX0.out rfl
  have hne0 : Nonempty (Later W) := later_nonempty W
  have am0 : ∀ q : Later W, q.w.cell? ⟨bb, off, none⟩ = _ := fun q => (q.h.cell (p := ⟨bb, off, none⟩) hbW).trans aq0
  have am1 : ∀ q : Later W, q.w.cell? ⟨bb, off + 1, none⟩ = _ := fun q => (q.h.cell (p := ⟨bb, off + 1, none⟩) hbW).trans aq1
  have am2 : ∀ q : Later W, q.w.cell? ⟨bb, off + 2, none⟩ = _ := fun q => (q.h.cell (p := ⟨bb, off + 2, none⟩) hbW).trans aq2
  have am3 : ∀ q : Later W, q.w.cell? ⟨bb, off + 3, none⟩ = _ := fun q => (q.h.cell (p := ⟨bb, off + 3, none⟩) hbW).trans aq3
  have am4 : ∀ q : Later W, q.w.cell? ⟨bb, off + 4, none⟩ = _ := fun q => (q.h.cell (p := ⟨bb, off + 4, none⟩) hbW).trans aq4
  have am5 : ∀ q : Later W, q.w.cell? ⟨bb, off + 5, none⟩ = _ := fun q => (q.h.cell (p := ⟨bb, off + 5, none⟩) hbW).trans aq5
  clear aq0 aq1 aq2 aq3 aq4 aq5
  have C1 : Hid (∀ q : Later W, Calls Tryz.prog 30 #[.agg #[.int .i64 a.k, .string a.s, .int .i64 a.n, .slice ao1 a.l.length ag1, .slice ao2 a.ds.length ag2, .slice ao3 a.al.length ag3], .int .i64 0, .int .i64 n] q.w fun e w' => e = .returned (.string (ofL (atL (txt h).ex a 0 n))) ∧ Below q.w.heap.size q.w w') := fun q => HA.out K a _ q.w n (d + 1) 0 ((reads_later (HB0.out.trans (q.h.mono HB0.out.size)) h).1 _ _ AR.out) aok (by omega) ac (by omega)
  rw [at_zero] at C1
  have wn : IntKind.i64.wrap ((n : Int) + 2) = (n : Int) + 2 := wrap_add (by omega) (by omega) (by omega) (by omega)
  have C2 : Hid (∀ q : Later W, Calls Tryz.prog 31 #[.slice o2 x.ds.length c2, .int .i64 ((n : Int) + 2)] q.w fun e w' => e = .returned (.string (ofL ((linesL (txt h).de x.ds (n + 2)).drop 1))) ∧ Below q.w.heap.size q.w w') := fun q => HDS.out K x.ds o2 c2 q.w (n + 2) (d + 1) (R2.out.later (HB0.out.trans (q.h.mono HB0.out.size)) (reads_later (HB0.out.trans (q.h.mono HB0.out.size)) h).2.1) f2.1 DD.out.2 hd12 (by omega) hds
  have C3 : Hid (∀ q : Later W, Calls Tryz.prog 28 #[.int .i64 n] q.w fun e w' => e = .returned (.string (ofL (padL n))) ∧ Below q.w.heap.size q.w w') := fun q => pad_any n (by omega) q.w
  have hdr : linesL (txt h).de x.ds (n + 2) = 10 :: (linesL (txt h).de x.ds (n + 2)).drop 1 := lines_drop _ _ _ DD.out.1
  have HRES : Hid (⟨#[108, 101, 116, 10]⟩ ++ ofL ((linesL (txt h).de x.ds (n + 2)).drop 1) ++ ⟨#[10]⟩ ++ ofL (padL n) ++ ⟨#[105, 110, 32]⟩ ++ ofL ((txt h).ex a n) = ofL ((txt (h + 1)).ex x n)) := by
    apply eq_ofL
    rw [txt_k6 HK.out HL.out, hdr]
    simp only [bl_append, bl_ofL, bl_mk, at_zero, List.append_assoc, List.cons_append, List.nil_append, List.drop_succ_cons, List.drop_zero]
  have ll2 : ((linesL (txt h).de x.ds (n + 2)).drop 1).length ≤ 200000 := by rw [List.length_drop]; omega
  clear hdr
  have Az : (ofL ((txt h).ex a n)).size ≤ 250000 := by rw [ofL_size]; omega
  generalize ofL ((txt h).ex a n) = A at C1 HRES Az
  have Bz : (ofL ((linesL (txt h).de x.ds (n + 2)).drop 1)).size ≤ 250000 := by rw [ofL_size]; omega
  generalize ofL ((linesL (txt h).de x.ds (n + 2)).drop 1) = B at C2 HRES Bz
  have Pz : (ofL (padL n)).size ≤ 250000 := by rw [ofL_size]; omega
  generalize ofL (padL n) = P at C3 HRES Pz
  have z1 : (⟨#[108, 101, 116, 10]⟩ ++ B).size = 4 + B.size := app_size _ _
  have z2 : (⟨#[108, 101, 116, 10]⟩ ++ B ++ ⟨#[10]⟩).size = 4 + B.size + 1 := (app_size _ _).trans (by rw [z1]; rfl)
  have z3 : (⟨#[108, 101, 116, 10]⟩ ++ B ++ ⟨#[10]⟩ ++ P).size = 4 + B.size + 1 + P.size := (app_size _ _).trans (by rw [z2])
  have z4 : (⟨#[108, 101, 116, 10]⟩ ++ B ++ ⟨#[10]⟩ ++ P ++ ⟨#[105, 110, 32]⟩).size = 4 + B.size + 1 + P.size + 3 := (app_size _ _).trans (by rw [z3]; rfl)
  refine wp_region_class (S := fun v => Below W.heap.size W v) (by kernel_rfl) (by kernel_rfl) (below_drew _) ?_
  repeat (first | go_big_quiet_skip | (go_big_quiet_want; go_big_quiet_op; first | go_big_quiet_on | (apply Exists.intro; refine ⟨fun q => ?_, ?_⟩; (first | (go_at_call 30; with_reducible refine (C1.out q).mono ?_; rintro e w9 ⟨rfl, hb9⟩; exact ⟨rfl, Later.on q hb9, rfl⟩) | (go_at_call 31; with_reducible refine (C2.out q).mono ?_; rintro e w9 ⟨rfl, hb9⟩; exact ⟨rfl, Later.on q hb9, rfl⟩) | (go_at_call 28; with_reducible refine (C3.out q).mono ?_; rintro e w9 ⟨rfl, hb9⟩; exact ⟨rfl, Later.on q hb9, rfl⟩)); go_big_quiet_on)))
  refine wpQuiet_nil ?_
  intro _ hw'
  obtain ⟨q, rfl⟩ := hw'
  go_wp2
  go_ret
  exact ⟨ret_str HRES.out, HB0.out.trans (q.h.mono HB0.out.size)⟩
set_option maxHeartbeats 2000000 in
set_option maxRecDepth 100000 in
theorem bare_8 {h : Nat} (hA : SpAt h) (hDs : SpDs h) (hAs : SpAs h) {K : Nat → Prop} {x a b c : Tr} {cs : List Value} {w : World} {n : Nat} {d : Int} (hr : (reads K w (h + 1)).ex x cs) (hok : (okz (h + 1)).ex x d = true) (hn : (n : Int) ≤ 60 + 4 * d) (hc : (cnt (h + 1)).ex x ≤ 200) (hk : x.k = 8) (hl : x.l = [a, b, c]) : Calls Tryz.prog 56 #[.agg cs.toArray, .int .i64 n] w fun e w' => e = .returned (.string (ofL ((txt (h + 1)).ex x n))) ∧ Below w.heap.size w w' := by
  have O := (ok_of hok).1
  have hdeep := O.deep
  have hcn : (cnt (h + 1)).ex x = 1 + sumZ (cnt h).ex x.l + sumZ (cnt h).al x.al + sumZ (cnt h).de x.ds := rfl
  have aok := O.parts a (by rw [hl]; simp)
  have bok := O.parts b (by rw [hl]; simp)
  have cok := O.parts c (by rw [hl]; simp)
  have hsum : (cnt h).ex a + (cnt h).ex b + (cnt h).ex c ≤ sumZ (cnt h).ex x.l := by rw [hl]; simp [sumZ]; omega
  have ac : (cnt h).ex a ≤ 200 := by omega
  have bc : (cnt h).ex b ≤ 200 := by omega
  have cc : (cnt h).ex c ≤ 200 := by omega
  obtain ⟨-, o1, c1, o2, c2, o3, c3, rfl, hs, f1, f2, f3, r1, r2, r3⟩ := hr
  have hll : x.l.length = 3 := by rw [hl]; rfl
  rw [hll] at f1
  rw [hl] at r1
  have HB0 : Hid (Below w.heap.size w (w.alloc (.cells #[.int .i64 8, .string x.s, .int .i64 x.n, .slice o1 3 c1, .slice o2 x.ds.length c2, .slice o3 x.al.length c3] 47))) := (Below.refl _ w).alloc (Nat.le_refl _) _
  have HX0 : Hid ((w.alloc (.cells #[.int .i64 8, .string x.s, .int .i64 x.n, .slice o1 3 c1, .slice o2 x.ds.length c2, .slice o3 x.al.length c3] 47)).heap[w.heap.size]? = some (.cells #[.int .i64 8, .string x.s, .int .i64 x.n, .slice o1 3 c1, .slice o2 x.ds.length c2, .slice o3 x.al.length c3] 47 (0, 0))) := heap_alloc_new w _
  obtain ⟨bb, off, rfl, -, hbl, hcs⟩ := r1 (by simp)
  obtain ⟨_, -, ak, ar⟩ := hcs 0 a rfl
  obtain ⟨ao1, ag1, ao2, ag2, ao3, ag3, rfl⟩ := ex_form ar
  have aq0 := (HB0.out.cell (p := ⟨bb, _, none⟩) hbl).trans (ak 0 _ rfl)
  have aq1 := (HB0.out.cell (p := ⟨bb, _, none⟩) hbl).trans (ak 1 _ rfl)
  have aq2 := (HB0.out.cell (p := ⟨bb, _, none⟩) hbl).trans (ak 2 _ rfl)
  have aq3 := (HB0.out.cell (p := ⟨bb, _, none⟩) hbl).trans (ak 3 _ rfl)
  have aq4 := (HB0.out.cell (p := ⟨bb, _, none⟩) hbl).trans (ak 4 _ rfl)
  have aq5 := (HB0.out.cell (p := ⟨bb, _, none⟩) hbl).trans (ak 5 _ rfl)
  simp only [Nat.zero_mul, Nat.one_mul, Nat.reduceMul, Nat.add_zero, Nat.zero_add] at aq0 aq1 aq2 aq3 aq4 aq5
  have AR := hide ar
  clear ak ar
  obtain ⟨_, -, bk, br⟩ := hcs 1 b rfl
  obtain ⟨bo1, bg1, bo2, bg2, bo3, bg3, rfl⟩ := ex_form br
  have bq0 := (HB0.out.cell (p := ⟨bb, _, none⟩) hbl).trans (bk 0 _ rfl)
  have bq1 := (HB0.out.cell (p := ⟨bb, _, none⟩) hbl).trans (bk 1 _ rfl)
  have bq2 := (HB0.out.cell (p := ⟨bb, _, none⟩) hbl).trans (bk 2 _ rfl)
  have bq3 := (HB0.out.cell (p := ⟨bb, _, none⟩) hbl).trans (bk 3 _ rfl)
  have bq4 := (HB0.out.cell (p := ⟨bb, _, none⟩) hbl).trans (bk 4 _ rfl)
  have bq5 := (HB0.out.cell (p := ⟨bb, _, none⟩) hbl).trans (bk 5 _ rfl)
  simp only [Nat.zero_mul, Nat.one_mul, Nat.reduceMul, Nat.add_zero, Nat.zero_add] at bq0 bq1 bq2 bq3 bq4 bq5
  have BR := hide br
  clear bk br
  obtain ⟨_, -, ck, cr⟩ := hcs 2 c rfl
  obtain ⟨co1, cg1, co2, cg2, co3, cg3, rfl⟩ := ex_form cr
  have cq0 := (HB0.out.cell (p := ⟨bb, _, none⟩) hbl).trans (ck 0 _ rfl)
  have cq1 := (HB0.out.cell (p := ⟨bb, _, none⟩) hbl).trans (ck 1 _ rfl)
  have cq2 := (HB0.out.cell (p := ⟨bb, _, none⟩) hbl).trans (ck 2 _ rfl)
  have cq3 := (HB0.out.cell (p := ⟨bb, _, none⟩) hbl).trans (ck 3 _ rfl)
  have cq4 := (HB0.out.cell (p := ⟨bb, _, none⟩) hbl).trans (ck 4 _ rfl)
  have cq5 := (HB0.out.cell (p := ⟨bb, _, none⟩) hbl).trans (ck 5 _ rfl)
  simp only [Nat.zero_mul, Nat.one_mul, Nat.reduceMul, Nat.add_zero, Nat.zero_add] at cq0 cq1 cq2 cq3 cq4 cq5
  have CR := hide cr
  clear ck cr
  clear hcs
  have al := (txt_len K w h).ex a _ (d + 1) n AR.out aok (by omega)
  have bl := (txt_len K w h).ex b _ (d + 1) n BR.out bok (by omega)
  have cl := (txt_len K w h).ex c _ (d + 1) n CR.out cok (by omega)
  have la := (atL_len (txt h).ex a 1 n).1
  have lb := (atL_len (txt h).ex b 1 n).1
  have hbW : bb < (w.alloc (.cells #[.int .i64 8, .string x.s, .int .i64 x.n, .slice (some ⟨bb, off, none⟩) 3 c1, .slice o2 x.ds.length c2, .slice o3 x.al.length c3] 47)).heap.size := Nat.lt_of_lt_of_le hbl HB0.out.size
  have R2 := hide r2
  have R3 := hide r3
  have HOK := hide hok
  have HA := hide hA
  have HDS := hide hDs
  have HAS := hide hAs
  have OO := hide O
  have HK := hide hk
  have HL := hide hl
  clear r1 r2 r3 hok hA hDs hAs O hcn
  show Calls Tryz.prog 56 #[.agg #[.int .i64 x.k, .string x.s, .int .i64 x.n, .slice _ x.l.length c1, .slice o2 x.ds.length c2, .slice o3 x.al.length c3], .int .i64 n] w _
  rw [hk, hll]
  clear hk hl hll
  go_enter Tryz.func56, Tryz.ntmps56
  go_wp2_with fail
  generalize (w.alloc (.cells #[.int .i64 8, .string x.s, .int .i64 x.n, .slice (some ⟨bb, off, none⟩) 3 c1, .slice o2 x.ds.length c2, .slice o3 x.al.length c3] 47)) = W at *
  have xs1 := later_cell (j := 1) HX0.out rfl
  have xs3 := later_cell (j := 3) HX0.out rfl
  have xs4 := later_cell (j := 4) HX0.out rfl
  have xs5 := later_cell (j := 5) HX0.out rfl
  have hne0 : Nonempty (Later W) := later_nonempty W
  have am0 : ∀ q : Later W, q.w.cell? ⟨bb, off, none⟩ = _ := fun q => (q.h.cell (p := ⟨bb, off, none⟩) hbW).trans aq0
  have am1 : ∀ q : Later W, q.w.cell? ⟨bb, off + 1, none⟩ = _ := fun q => (q.h.cell (p := ⟨bb, off + 1, none⟩) hbW).trans aq1
  have am2 : ∀ q : Later W, q.w.cell? ⟨bb, off + 2, none⟩ = _ := fun q => (q.h.cell (p := ⟨bb, off + 2, none⟩) hbW).trans aq2
  have am3 : ∀ q : Later W, q.w.cell? ⟨bb, off + 3, none⟩ = _ := fun q => (q.h.cell (p := ⟨bb, off + 3, none⟩) hbW).trans aq3
  have am4 : ∀ q : Later W, q.w.cell? ⟨bb, off + 4, none⟩ = _ := fun q => (q.h.cell (p := ⟨bb, off + 4, none⟩) hbW).trans aq4
  have am5 : ∀ q : Later W, q.w.cell? ⟨bb, off + 5, none⟩ = _ := fun q => (q.h.cell (p := ⟨bb, off + 5, none⟩) hbW).trans aq5
  clear aq0 aq1 aq2 aq3 aq4 aq5
  have bm0 : ∀ q : Later W, q.w.cell? ⟨bb, off + 6, none⟩ = _ := fun q => (q.h.cell (p := ⟨bb, off + 6, none⟩) hbW).trans bq0
  have bm1 : ∀ q : Later W, q.w.cell? ⟨bb, off + 6 + 1, none⟩ = _ := fun q => (q.h.cell (p := ⟨bb, off + 6 + 1, none⟩) hbW).trans bq1
  have bm2 : ∀ q : Later W, q.w.cell? ⟨bb, off + 6 + 2, none⟩ = _ := fun q => (q.h.cell (p := ⟨bb, off + 6 + 2, none⟩) hbW).trans bq2
  have bm3 : ∀ q : Later W, q.w.cell? ⟨bb, off + 6 + 3, none⟩ = _ := fun q => (q.h.cell (p := ⟨bb, off + 6 + 3, none⟩) hbW).trans bq3
  have bm4 : ∀ q : Later W, q.w.cell? ⟨bb, off + 6 + 4, none⟩ = _ := fun q => (q.h.cell (p := ⟨bb, off + 6 + 4, none⟩) hbW).trans bq4
  have bm5 : ∀ q : Later W, q.w.cell? ⟨bb, off + 6 + 5, none⟩ = _ := fun q => (q.h.cell (p := ⟨bb, off + 6 + 5, none⟩) hbW).trans bq5
  clear bq0 bq1 bq2 bq3 bq4 bq5
  have cm0 : ∀ q : Later W, q.w.cell? ⟨bb, off + 12, none⟩ = _ := fun q => (q.h.cell (p := ⟨bb, off + 12, none⟩) hbW).trans cq0
  have cm1 : ∀ q : Later W, q.w.cell? ⟨bb, off + 12 + 1, none⟩ = _ := fun q => (q.h.cell (p := ⟨bb, off + 12 + 1, none⟩) hbW).trans cq1
  have cm2 : ∀ q : Later W, q.w.cell? ⟨bb, off + 12 + 2, none⟩ = _ := fun q => (q.h.cell (p := ⟨bb, off + 12 + 2, none⟩) hbW).trans cq2
  have cm3 : ∀ q : Later W, q.w.cell? ⟨bb, off + 12 + 3, none⟩ = _ := fun q => (q.h.cell (p := ⟨bb, off + 12 + 3, none⟩) hbW).trans cq3
  have cm4 : ∀ q : Later W, q.w.cell? ⟨bb, off + 12 + 4, none⟩ = _ := fun q => (q.h.cell (p := ⟨bb, off + 12 + 4, none⟩) hbW).trans cq4
  have cm5 : ∀ q : Later W, q.w.cell? ⟨bb, off + 12 + 5, none⟩ = _ := fun q => (q.h.cell (p := ⟨bb, off + 12 + 5, none⟩) hbW).trans cq5
  clear cq0 cq1 cq2 cq3 cq4 cq5
  have C1 : Hid (∀ q : Later W, Calls Tryz.prog 30 #[.agg #[.int .i64 a.k, .string a.s, .int .i64 a.n, .slice ao1 a.l.length ag1, .slice ao2 a.ds.length ag2, .slice ao3 a.al.length ag3], .int .i64 1, .int .i64 n] q.w fun e w' => e = .returned (.string (ofL (atL (txt h).ex a 1 n))) ∧ Below q.w.heap.size q.w w') := fun q => HA.out K a _ q.w n (d + 1) 1 ((reads_later (HB0.out.trans (q.h.mono HB0.out.size)) h).1 _ _ AR.out) aok (by omega) ac (by omega)
  have C2 : Hid (∀ q : Later W, Calls Tryz.prog 30 #[.agg #[.int .i64 b.k, .string b.s, .int .i64 b.n, .slice bo1 b.l.length bg1, .slice bo2 b.ds.length bg2, .slice bo3 b.al.length bg3], .int .i64 1, .int .i64 n] q.w fun e w' => e = .returned (.string (ofL (atL (txt h).ex b 1 n))) ∧ Below q.w.heap.size q.w w') := fun q => HA.out K b _ q.w n (d + 1) 1 ((reads_later (HB0.out.trans (q.h.mono HB0.out.size)) h).1 _ _ BR.out) bok (by omega) bc (by omega)
  have C3 : Hid (∀ q : Later W, Calls Tryz.prog 30 #[.agg #[.int .i64 c.k, .string c.s, .int .i64 c.n, .slice co1 c.l.length cg1, .slice co2 c.ds.length cg2, .slice co3 c.al.length cg3], .int .i64 0, .int .i64 n] q.w fun e w' => e = .returned (.string (ofL (atL (txt h).ex c 0 n))) ∧ Below q.w.heap.size q.w w') := fun q => HA.out K c _ q.w n (d + 1) 0 ((reads_later (HB0.out.trans (q.h.mono HB0.out.size)) h).1 _ _ CR.out) cok (by omega) cc (by omega)
  rw [at_zero] at C3
  have HRES : Hid (⟨#[105, 102, 32]⟩ ++ ofL (atL (txt h).ex a 1 n) ++ ⟨#[32, 116, 104, 101, 110, 32]⟩ ++ ofL (atL (txt h).ex b 1 n) ++ ⟨#[32, 101, 108, 115, 101, 32]⟩ ++ ofL ((txt h).ex c n) = ofL ((txt (h + 1)).ex x n)) := by
    apply eq_ofL
    rw [txt_k8 HK.out HL.out]
    simp only [bl_append, bl_ofL, bl_mk, at_zero, List.append_assoc, List.cons_append, List.nil_append]
  have Az : (ofL (atL (txt h).ex a 1 n)).size ≤ 250000 := by rw [ofL_size]; omega
  generalize ofL (atL (txt h).ex a 1 n) = A at C1 HRES Az
  have Bz : (ofL (atL (txt h).ex b 1 n)).size ≤ 250000 := by rw [ofL_size]; omega
  generalize ofL (atL (txt h).ex b 1 n) = B at C2 HRES Bz
  have Dz : (ofL ((txt h).ex c n)).size ≤ 250000 := by rw [ofL_size]; omega
  generalize ofL ((txt h).ex c n) = D at C3 HRES Dz
  have z1 : (⟨#[105, 102, 32]⟩ ++ A).size = 3 + A.size := app_size _ _
  have z2 : (⟨#[105, 102, 32]⟩ ++ A ++ ⟨#[32, 116, 104, 101, 110, 32]⟩).size = 3 + A.size + 6 := (app_size _ _).trans (by rw [z1]; rfl)
  have z3 : (⟨#[105, 102, 32]⟩ ++ A ++ ⟨#[32, 116, 104, 101, 110, 32]⟩ ++ B).size = 3 + A.size + 6 + B.size := (app_size _ _).trans (by rw [z2])
  have z4 : (⟨#[105, 102, 32]⟩ ++ A ++ ⟨#[32, 116, 104, 101, 110, 32]⟩ ++ B ++ ⟨#[32, 101, 108, 115, 101, 32]⟩).size = 3 + A.size + 6 + B.size + 6 := (app_size _ _).trans (by rw [z3]; rfl)
  refine wp_region_class (S := fun v => Below W.heap.size W v) (by kernel_rfl) (by kernel_rfl) (below_drew _) ?_
  repeat (first | go_big_quiet_skip | (go_big_quiet_want; go_big_quiet_op; first | go_big_quiet_on | (apply Exists.intro; refine ⟨fun q => ?_, ?_⟩; (first | (go_at_call 30; with_reducible refine (C1.out q).mono ?_; rintro e w9 ⟨rfl, hb9⟩; exact ⟨rfl, Later.on q hb9, rfl⟩) | (go_at_call 30; with_reducible refine (C2.out q).mono ?_; rintro e w9 ⟨rfl, hb9⟩; exact ⟨rfl, Later.on q hb9, rfl⟩) | (go_at_call 30; with_reducible refine (C3.out q).mono ?_; rintro e w9 ⟨rfl, hb9⟩; exact ⟨rfl, Later.on q hb9, rfl⟩)); go_big_quiet_on)))
  refine wpQuiet_nil ?_
  intro _ hw'
  obtain ⟨q, rfl⟩ := hw'
  go_wp2
  go_ret
  exact ⟨ret_str HRES.out, HB0.out.trans (q.h.mono HB0.out.size)⟩
end Go.Proofs.YteoghpefilghdakGreatDoor
namespace Go.Proofs.YteoghpefilghdakGreatDoor
open Go.ChangeShapes Go.WideShapes Go.ChangeAt Go.RowKit
set_option linter.unusedSimpArgs false
set_option linter.unusedVariables false

set_option maxHeartbeats 2000000 in
set_option maxRecDepth 100000 in
theorem bare_9_1 {h : Nat} (hA : SpAt h) (hDs : SpDs h) (hAs : SpAs h) {K : Nat → Prop} {x a b : Tr} {cs : List Value} {w : World} {n : Nat} {d : Int} (hr : (reads K w (h + 1)).ex x cs) (hok : (okz (h + 1)).ex x d = true) (hn : (n : Int) ≤ 60 + 4 * d) (hc : (cnt (h + 1)).ex x ≤ 200) (hk : x.k = 9) (hl : x.l = [a, b]) (hsz : x.s.size ≤ 2) (hlv : opLev x.s = 1) : Calls Tryz.prog 56 #[.agg cs.toArray, .int .i64 n] w fun e w' => e = .returned (.string (ofL ((txt (h + 1)).ex x n))) ∧ Below w.heap.size w w' := by
  have O := (ok_of hok).1
  have hdeep := O.deep
  have hcn : (cnt (h + 1)).ex x = 1 + sumZ (cnt h).ex x.l + sumZ (cnt h).al x.al + sumZ (cnt h).de x.ds := rfl
  have aok := O.parts a (by rw [hl]; simp)
  have bok := O.parts b (by rw [hl]; simp)
  have hsum : (cnt h).ex a + (cnt h).ex b ≤ sumZ (cnt h).ex x.l := by rw [hl]; simp [sumZ]
  have ac : (cnt h).ex a ≤ 200 := by omega
  have bc : (cnt h).ex b ≤ 200 := by omega
  obtain ⟨-, o1, c1, o2, c2, o3, c3, rfl, hs, f1, f2, f3, r1, r2, r3⟩ := hr
  have hll : x.l.length = 2 := by rw [hl]; rfl
  rw [hll] at f1
  rw [hl] at r1
  have HB0 : Hid (Below w.heap.size w (w.alloc (.cells #[.int .i64 9, .string x.s, .int .i64 x.n, .slice o1 2 c1, .slice o2 x.ds.length c2, .slice o3 x.al.length c3] 47))) := (Below.refl _ w).alloc (Nat.le_refl _) _
  have HX0 : Hid ((w.alloc (.cells #[.int .i64 9, .string x.s, .int .i64 x.n, .slice o1 2 c1, .slice o2 x.ds.length c2, .slice o3 x.al.length c3] 47)).heap[w.heap.size]? = some (.cells #[.int .i64 9, .string x.s, .int .i64 x.n, .slice o1 2 c1, .slice o2 x.ds.length c2, .slice o3 x.al.length c3] 47 (0, 0))) := heap_alloc_new w _
  obtain ⟨bb, off, rfl, -, hbl, hcs⟩ := r1 (by simp)
  obtain ⟨_, -, ak, ar⟩ := hcs 0 a rfl
  obtain ⟨ao1, ag1, ao2, ag2, ao3, ag3, rfl⟩ := ex_form ar
  have aq0 := (HB0.out.cell (p := ⟨bb, _, none⟩) hbl).trans (ak 0 _ rfl)
  have aq1 := (HB0.out.cell (p := ⟨bb, _, none⟩) hbl).trans (ak 1 _ rfl)
  have aq2 := (HB0.out.cell (p := ⟨bb, _, none⟩) hbl).trans (ak 2 _ rfl)
  have aq3 := (HB0.out.cell (p := ⟨bb, _, none⟩) hbl).trans (ak 3 _ rfl)
  have aq4 := (HB0.out.cell (p := ⟨bb, _, none⟩) hbl).trans (ak 4 _ rfl)
  have aq5 := (HB0.out.cell (p := ⟨bb, _, none⟩) hbl).trans (ak 5 _ rfl)
  simp only [Nat.zero_mul, Nat.one_mul, Nat.reduceMul, Nat.add_zero, Nat.zero_add] at aq0 aq1 aq2 aq3 aq4 aq5
  have AR := hide ar
  clear ak ar
  obtain ⟨_, -, bk, br⟩ := hcs 1 b rfl
  obtain ⟨bo1, bg1, bo2, bg2, bo3, bg3, rfl⟩ := ex_form br
  have bq0 := (HB0.out.cell (p := ⟨bb, _, none⟩) hbl).trans (bk 0 _ rfl)
  have bq1 := (HB0.out.cell (p := ⟨bb, _, none⟩) hbl).trans (bk 1 _ rfl)
  have bq2 := (HB0.out.cell (p := ⟨bb, _, none⟩) hbl).trans (bk 2 _ rfl)
  have bq3 := (HB0.out.cell (p := ⟨bb, _, none⟩) hbl).trans (bk 3 _ rfl)
  have bq4 := (HB0.out.cell (p := ⟨bb, _, none⟩) hbl).trans (bk 4 _ rfl)
  have bq5 := (HB0.out.cell (p := ⟨bb, _, none⟩) hbl).trans (bk 5 _ rfl)
  simp only [Nat.zero_mul, Nat.one_mul, Nat.reduceMul, Nat.add_zero, Nat.zero_add] at bq0 bq1 bq2 bq3 bq4 bq5
  have BR := hide br
  clear bk br
  clear hcs
  have al := (txt_len K w h).ex a _ (d + 1) n AR.out aok (by omega)
  have bl := (txt_len K w h).ex b _ (d + 1) n BR.out bok (by omega)
  have la := (atL_len (txt h).ex a 2 n).1
  have lb := (atL_len (txt h).ex b 2 n).1
  have HLV := hide hlv
  have hs2 : x.s.size ≤ 2 := hsz
  have HLEV : Hid (((levB ⟨9, x.s, x.n, [], [], [], []⟩ : Nat) : Int) = 1) := by
    show ((levB ⟨9, x.s, x.n, [], [], [], []⟩ : Nat) : Int) = 1
    unfold levB
    simp only [Int.reduceEq, or_false, or_self, ↓reduceIte]
    rw [hlv]
    rfl
  have hbW : bb < (w.alloc (.cells #[.int .i64 9, .string x.s, .int .i64 x.n, .slice (some ⟨bb, off, none⟩) 2 c1, .slice o2 x.ds.length c2, .slice o3 x.al.length c3] 47)).heap.size := Nat.lt_of_lt_of_le hbl HB0.out.size
  have R2 := hide r2
  have R3 := hide r3
  have HOK := hide hok
  have HA := hide hA
  have HDS := hide hDs
  have HAS := hide hAs
  have OO := hide O
  have HK := hide hk
  have HL := hide hl
  clear r1 r2 r3 hok hA hDs hAs O hcn
  show Calls Tryz.prog 56 #[.agg #[.int .i64 x.k, .string x.s, .int .i64 x.n, .slice _ x.l.length c1, .slice o2 x.ds.length c2, .slice o3 x.al.length c3], .int .i64 n] w _
  rw [hk, hll]
  clear hk hl hll
  go_enter Tryz.func56, Tryz.ntmps56
  go_wp2_with fail
  refine (level_any ⟨9, x.s, x.n, [], [], [], []⟩ x.n (some ⟨bb, off, none⟩) o2 o3 2 c1 _ c2 _ c3 _).mono ?_
  rintro e W ⟨rfl, hb⟩
  rw [HLEV.out]
  replace aq0 := (hb.cell (p := ⟨bb, _, none⟩) hbW).trans aq0
  replace aq1 := (hb.cell (p := ⟨bb, _, none⟩) hbW).trans aq1
  replace aq2 := (hb.cell (p := ⟨bb, _, none⟩) hbW).trans aq2
  replace aq3 := (hb.cell (p := ⟨bb, _, none⟩) hbW).trans aq3
  replace aq4 := (hb.cell (p := ⟨bb, _, none⟩) hbW).trans aq4
  replace aq5 := (hb.cell (p := ⟨bb, _, none⟩) hbW).trans aq5
  replace bq0 := (hb.cell (p := ⟨bb, _, none⟩) hbW).trans bq0
  replace bq1 := (hb.cell (p := ⟨bb, _, none⟩) hbW).trans bq1
  replace bq2 := (hb.cell (p := ⟨bb, _, none⟩) hbW).trans bq2
  replace bq3 := (hb.cell (p := ⟨bb, _, none⟩) hbW).trans bq3
  replace bq4 := (hb.cell (p := ⟨bb, _, none⟩) hbW).trans bq4
  replace bq5 := (hb.cell (p := ⟨bb, _, none⟩) hbW).trans bq5
  replace hbW := Nat.lt_of_lt_of_le hbW hb.size
  replace HX0 := hide ((hb.block w.heap.size (heap_lt HX0.out)).trans HX0.out)
  replace HB0 := hide (HB0.out.trans (hb.mono HB0.out.size))
  clear hb
  go_wp2_with fail
  have xs1 := later_cell (j := 1) HX0.out rfl
  have xs3 := later_cell (j := 3) HX0.out rfl
  have xs4 := later_cell (j := 4) HX0.out rfl
  have xs5 := later_cell (j := 5) HX0.out rfl
  have hne0 : Nonempty (Later W) := later_nonempty W
  have am0 : ∀ q : Later W, q.w.cell? ⟨bb, off, none⟩ = _ := fun q => (q.h.cell (p := ⟨bb, off, none⟩) hbW).trans aq0
  have am1 : ∀ q : Later W, q.w.cell? ⟨bb, off + 1, none⟩ = _ := fun q => (q.h.cell (p := ⟨bb, off + 1, none⟩) hbW).trans aq1
  have am2 : ∀ q : Later W, q.w.cell? ⟨bb, off + 2, none⟩ = _ := fun q => (q.h.cell (p := ⟨bb, off + 2, none⟩) hbW).trans aq2
  have am3 : ∀ q : Later W, q.w.cell? ⟨bb, off + 3, none⟩ = _ := fun q => (q.h.cell (p := ⟨bb, off + 3, none⟩) hbW).trans aq3
  have am4 : ∀ q : Later W, q.w.cell? ⟨bb, off + 4, none⟩ = _ := fun q => (q.h.cell (p := ⟨bb, off + 4, none⟩) hbW).trans aq4
  have am5 : ∀ q : Later W, q.w.cell? ⟨bb, off + 5, none⟩ = _ := fun q => (q.h.cell (p := ⟨bb, off + 5, none⟩) hbW).trans aq5
  clear aq0 aq1 aq2 aq3 aq4 aq5
  have bm0 : ∀ q : Later W, q.w.cell? ⟨bb, off + 6, none⟩ = _ := fun q => (q.h.cell (p := ⟨bb, off + 6, none⟩) hbW).trans bq0
  have bm1 : ∀ q : Later W, q.w.cell? ⟨bb, off + 6 + 1, none⟩ = _ := fun q => (q.h.cell (p := ⟨bb, off + 6 + 1, none⟩) hbW).trans bq1
  have bm2 : ∀ q : Later W, q.w.cell? ⟨bb, off + 6 + 2, none⟩ = _ := fun q => (q.h.cell (p := ⟨bb, off + 6 + 2, none⟩) hbW).trans bq2
  have bm3 : ∀ q : Later W, q.w.cell? ⟨bb, off + 6 + 3, none⟩ = _ := fun q => (q.h.cell (p := ⟨bb, off + 6 + 3, none⟩) hbW).trans bq3
  have bm4 : ∀ q : Later W, q.w.cell? ⟨bb, off + 6 + 4, none⟩ = _ := fun q => (q.h.cell (p := ⟨bb, off + 6 + 4, none⟩) hbW).trans bq4
  have bm5 : ∀ q : Later W, q.w.cell? ⟨bb, off + 6 + 5, none⟩ = _ := fun q => (q.h.cell (p := ⟨bb, off + 6 + 5, none⟩) hbW).trans bq5
  clear bq0 bq1 bq2 bq3 bq4 bq5
  have C1 : Hid (∀ q : Later W, Calls Tryz.prog 30 #[.agg #[.int .i64 a.k, .string a.s, .int .i64 a.n, .slice ao1 a.l.length ag1, .slice ao2 a.ds.length ag2, .slice ao3 a.al.length ag3], .int .i64 2, .int .i64 n] q.w fun e w' => e = .returned (.string (ofL (atL (txt h).ex a 2 n))) ∧ Below q.w.heap.size q.w w') := fun q => HA.out K a _ q.w n (d + 1) 2 ((reads_later (HB0.out.trans (q.h.mono HB0.out.size)) h).1 _ _ AR.out) aok (by omega) ac (by omega)
  have C2 : Hid (∀ q : Later W, Calls Tryz.prog 30 #[.agg #[.int .i64 b.k, .string b.s, .int .i64 b.n, .slice bo1 b.l.length bg1, .slice bo2 b.ds.length bg2, .slice bo3 b.al.length bg3], .int .i64 2, .int .i64 n] q.w fun e w' => e = .returned (.string (ofL (atL (txt h).ex b 2 n))) ∧ Below q.w.heap.size q.w w') := fun q => HA.out K b _ q.w n (d + 1) 2 ((reads_later (HB0.out.trans (q.h.mono HB0.out.size)) h).1 _ _ BR.out) bok (by omega) bc (by omega)
  have HRES : Hid (ofL (atL (txt h).ex a 2 n) ++ ⟨#[32]⟩ ++ x.s ++ ⟨#[32]⟩ ++ ofL (atL (txt h).ex b 2 n) = ofL ((txt (h + 1)).ex x n)) := by
    apply eq_ofL
    rw [txt_k9 HK.out HL.out, HLV.out]
    simp only [bl_append, bl_ofL, bl_mk, leftL, Nat.reduceEqDiff, Nat.reduceAdd, ↓reduceIte, List.append_assoc, List.cons_append, List.nil_append]
  have Az : (ofL (atL (txt h).ex a 2 n)).size ≤ 250000 := by rw [ofL_size]; omega
  generalize ofL (atL (txt h).ex a 2 n) = A at C1 HRES Az
  have Bz : (ofL (atL (txt h).ex b 2 n)).size ≤ 250000 := by rw [ofL_size]; omega
  generalize ofL (atL (txt h).ex b 2 n) = B at C2 HRES Bz
  have z1 : (A ++ ⟨#[32]⟩).size = A.size + 1 := app_size _ _
  have z2 : (A ++ ⟨#[32]⟩ ++ x.s).size = A.size + 1 + x.s.size := (app_size _ _).trans (by rw [z1])
  have z3 : (A ++ ⟨#[32]⟩ ++ x.s ++ ⟨#[32]⟩).size = A.size + 1 + x.s.size + 1 := (app_size _ _).trans (by rw [z2]; rfl)
  refine wp_region_class (S := fun v => Below W.heap.size W v) (by kernel_rfl) (by kernel_rfl) (below_drew _) ?_
  repeat (first | go_big_quiet_skip | (go_big_quiet_want; go_big_quiet_op; first | go_big_quiet_on | (apply Exists.intro; refine ⟨fun q => ?_, ?_⟩; (first | (go_at_call 30; with_reducible refine (C1.out q).mono ?_; rintro e w9 ⟨rfl, hb9⟩; exact ⟨rfl, Later.on q hb9, rfl⟩) | (go_at_call 30; with_reducible refine (C2.out q).mono ?_; rintro e w9 ⟨rfl, hb9⟩; exact ⟨rfl, Later.on q hb9, rfl⟩)); go_big_quiet_on)))
  refine wpQuiet_nil ?_
  intro _ hw'
  obtain ⟨q, rfl⟩ := hw'
  go_wp2
  go_ret
  exact ⟨ret_str HRES.out, HB0.out.trans (q.h.mono HB0.out.size)⟩
set_option maxHeartbeats 2000000 in
set_option maxRecDepth 100000 in
theorem bare_9_2 {h : Nat} (hA : SpAt h) (hDs : SpDs h) (hAs : SpAs h) {K : Nat → Prop} {x a b : Tr} {cs : List Value} {w : World} {n : Nat} {d : Int} (hr : (reads K w (h + 1)).ex x cs) (hok : (okz (h + 1)).ex x d = true) (hn : (n : Int) ≤ 60 + 4 * d) (hc : (cnt (h + 1)).ex x ≤ 200) (hk : x.k = 9) (hl : x.l = [a, b]) (hsz : x.s.size ≤ 2) (hlv : opLev x.s = 2) : Calls Tryz.prog 56 #[.agg cs.toArray, .int .i64 n] w fun e w' => e = .returned (.string (ofL ((txt (h + 1)).ex x n))) ∧ Below w.heap.size w w' := by
  have O := (ok_of hok).1
  have hdeep := O.deep
  have hcn : (cnt (h + 1)).ex x = 1 + sumZ (cnt h).ex x.l + sumZ (cnt h).al x.al + sumZ (cnt h).de x.ds := rfl
  have aok := O.parts a (by rw [hl]; simp)
  have bok := O.parts b (by rw [hl]; simp)
  have hsum : (cnt h).ex a + (cnt h).ex b ≤ sumZ (cnt h).ex x.l := by rw [hl]; simp [sumZ]
  have ac : (cnt h).ex a ≤ 200 := by omega
  have bc : (cnt h).ex b ≤ 200 := by omega
  obtain ⟨-, o1, c1, o2, c2, o3, c3, rfl, hs, f1, f2, f3, r1, r2, r3⟩ := hr
  have hll : x.l.length = 2 := by rw [hl]; rfl
  rw [hll] at f1
  rw [hl] at r1
  have HB0 : Hid (Below w.heap.size w (w.alloc (.cells #[.int .i64 9, .string x.s, .int .i64 x.n, .slice o1 2 c1, .slice o2 x.ds.length c2, .slice o3 x.al.length c3] 47))) := (Below.refl _ w).alloc (Nat.le_refl _) _
  have HX0 : Hid ((w.alloc (.cells #[.int .i64 9, .string x.s, .int .i64 x.n, .slice o1 2 c1, .slice o2 x.ds.length c2, .slice o3 x.al.length c3] 47)).heap[w.heap.size]? = some (.cells #[.int .i64 9, .string x.s, .int .i64 x.n, .slice o1 2 c1, .slice o2 x.ds.length c2, .slice o3 x.al.length c3] 47 (0, 0))) := heap_alloc_new w _
  obtain ⟨bb, off, rfl, -, hbl, hcs⟩ := r1 (by simp)
  obtain ⟨_, -, ak, ar⟩ := hcs 0 a rfl
  obtain ⟨ao1, ag1, ao2, ag2, ao3, ag3, rfl⟩ := ex_form ar
  have aq0 := (HB0.out.cell (p := ⟨bb, _, none⟩) hbl).trans (ak 0 _ rfl)
  have aq1 := (HB0.out.cell (p := ⟨bb, _, none⟩) hbl).trans (ak 1 _ rfl)
  have aq2 := (HB0.out.cell (p := ⟨bb, _, none⟩) hbl).trans (ak 2 _ rfl)
  have aq3 := (HB0.out.cell (p := ⟨bb, _, none⟩) hbl).trans (ak 3 _ rfl)
  have aq4 := (HB0.out.cell (p := ⟨bb, _, none⟩) hbl).trans (ak 4 _ rfl)
  have aq5 := (HB0.out.cell (p := ⟨bb, _, none⟩) hbl).trans (ak 5 _ rfl)
  simp only [Nat.zero_mul, Nat.one_mul, Nat.reduceMul, Nat.add_zero, Nat.zero_add] at aq0 aq1 aq2 aq3 aq4 aq5
  have AR := hide ar
  clear ak ar
  obtain ⟨_, -, bk, br⟩ := hcs 1 b rfl
  obtain ⟨bo1, bg1, bo2, bg2, bo3, bg3, rfl⟩ := ex_form br
  have bq0 := (HB0.out.cell (p := ⟨bb, _, none⟩) hbl).trans (bk 0 _ rfl)
  have bq1 := (HB0.out.cell (p := ⟨bb, _, none⟩) hbl).trans (bk 1 _ rfl)
  have bq2 := (HB0.out.cell (p := ⟨bb, _, none⟩) hbl).trans (bk 2 _ rfl)
  have bq3 := (HB0.out.cell (p := ⟨bb, _, none⟩) hbl).trans (bk 3 _ rfl)
  have bq4 := (HB0.out.cell (p := ⟨bb, _, none⟩) hbl).trans (bk 4 _ rfl)
  have bq5 := (HB0.out.cell (p := ⟨bb, _, none⟩) hbl).trans (bk 5 _ rfl)
  simp only [Nat.zero_mul, Nat.one_mul, Nat.reduceMul, Nat.add_zero, Nat.zero_add] at bq0 bq1 bq2 bq3 bq4 bq5
  have BR := hide br
  clear bk br
  clear hcs
  have al := (txt_len K w h).ex a _ (d + 1) n AR.out aok (by omega)
  have bl := (txt_len K w h).ex b _ (d + 1) n BR.out bok (by omega)
  have la := (atL_len (txt h).ex a 2 n).1
  have lb := (atL_len (txt h).ex b 3 n).1
  have HLV := hide hlv
  have hs2 : x.s.size ≤ 2 := hsz
  have HLEV : Hid (((levB ⟨9, x.s, x.n, [], [], [], []⟩ : Nat) : Int) = 2) := by
    show ((levB ⟨9, x.s, x.n, [], [], [], []⟩ : Nat) : Int) = 2
    unfold levB
    simp only [Int.reduceEq, or_false, or_self, ↓reduceIte]
    rw [hlv]
    rfl
  have hbW : bb < (w.alloc (.cells #[.int .i64 9, .string x.s, .int .i64 x.n, .slice (some ⟨bb, off, none⟩) 2 c1, .slice o2 x.ds.length c2, .slice o3 x.al.length c3] 47)).heap.size := Nat.lt_of_lt_of_le hbl HB0.out.size
  have R2 := hide r2
  have R3 := hide r3
  have HOK := hide hok
  have HA := hide hA
  have HDS := hide hDs
  have HAS := hide hAs
  have OO := hide O
  have HK := hide hk
  have HL := hide hl
  clear r1 r2 r3 hok hA hDs hAs O hcn
  show Calls Tryz.prog 56 #[.agg #[.int .i64 x.k, .string x.s, .int .i64 x.n, .slice _ x.l.length c1, .slice o2 x.ds.length c2, .slice o3 x.al.length c3], .int .i64 n] w _
  rw [hk, hll]
  clear hk hl hll
  go_enter Tryz.func56, Tryz.ntmps56
  go_wp2_with fail
  refine (level_any ⟨9, x.s, x.n, [], [], [], []⟩ x.n (some ⟨bb, off, none⟩) o2 o3 2 c1 _ c2 _ c3 _).mono ?_
  rintro e W ⟨rfl, hb⟩
  rw [HLEV.out]
  replace aq0 := (hb.cell (p := ⟨bb, _, none⟩) hbW).trans aq0
  replace aq1 := (hb.cell (p := ⟨bb, _, none⟩) hbW).trans aq1
  replace aq2 := (hb.cell (p := ⟨bb, _, none⟩) hbW).trans aq2
  replace aq3 := (hb.cell (p := ⟨bb, _, none⟩) hbW).trans aq3
  replace aq4 := (hb.cell (p := ⟨bb, _, none⟩) hbW).trans aq4
  replace aq5 := (hb.cell (p := ⟨bb, _, none⟩) hbW).trans aq5
  replace bq0 := (hb.cell (p := ⟨bb, _, none⟩) hbW).trans bq0
  replace bq1 := (hb.cell (p := ⟨bb, _, none⟩) hbW).trans bq1
  replace bq2 := (hb.cell (p := ⟨bb, _, none⟩) hbW).trans bq2
  replace bq3 := (hb.cell (p := ⟨bb, _, none⟩) hbW).trans bq3
  replace bq4 := (hb.cell (p := ⟨bb, _, none⟩) hbW).trans bq4
  replace bq5 := (hb.cell (p := ⟨bb, _, none⟩) hbW).trans bq5
  replace hbW := Nat.lt_of_lt_of_le hbW hb.size
  replace HX0 := hide ((hb.block w.heap.size (heap_lt HX0.out)).trans HX0.out)
  replace HB0 := hide (HB0.out.trans (hb.mono HB0.out.size))
  clear hb
  go_wp2_with fail
  have xs1 := later_cell (j := 1) HX0.out rfl
  have xs3 := later_cell (j := 3) HX0.out rfl
  have xs4 := later_cell (j := 4) HX0.out rfl
  have xs5 := later_cell (j := 5) HX0.out rfl
  have hne0 : Nonempty (Later W) := later_nonempty W
  have am0 : ∀ q : Later W, q.w.cell? ⟨bb, off, none⟩ = _ := fun q => (q.h.cell (p := ⟨bb, off, none⟩) hbW).trans aq0
  have am1 : ∀ q : Later W, q.w.cell? ⟨bb, off + 1, none⟩ = _ := fun q => (q.h.cell (p := ⟨bb, off + 1, none⟩) hbW).trans aq1
  have am2 : ∀ q : Later W, q.w.cell? ⟨bb, off + 2, none⟩ = _ := fun q => (q.h.cell (p := ⟨bb, off + 2, none⟩) hbW).trans aq2
  have am3 : ∀ q : Later W, q.w.cell? ⟨bb, off + 3, none⟩ = _ := fun q => (q.h.cell (p := ⟨bb, off + 3, none⟩) hbW).trans aq3
  have am4 : ∀ q : Later W, q.w.cell? ⟨bb, off + 4, none⟩ = _ := fun q => (q.h.cell (p := ⟨bb, off + 4, none⟩) hbW).trans aq4
  have am5 : ∀ q : Later W, q.w.cell? ⟨bb, off + 5, none⟩ = _ := fun q => (q.h.cell (p := ⟨bb, off + 5, none⟩) hbW).trans aq5
  clear aq0 aq1 aq2 aq3 aq4 aq5
  have bm0 : ∀ q : Later W, q.w.cell? ⟨bb, off + 6, none⟩ = _ := fun q => (q.h.cell (p := ⟨bb, off + 6, none⟩) hbW).trans bq0
  have bm1 : ∀ q : Later W, q.w.cell? ⟨bb, off + 6 + 1, none⟩ = _ := fun q => (q.h.cell (p := ⟨bb, off + 6 + 1, none⟩) hbW).trans bq1
  have bm2 : ∀ q : Later W, q.w.cell? ⟨bb, off + 6 + 2, none⟩ = _ := fun q => (q.h.cell (p := ⟨bb, off + 6 + 2, none⟩) hbW).trans bq2
  have bm3 : ∀ q : Later W, q.w.cell? ⟨bb, off + 6 + 3, none⟩ = _ := fun q => (q.h.cell (p := ⟨bb, off + 6 + 3, none⟩) hbW).trans bq3
  have bm4 : ∀ q : Later W, q.w.cell? ⟨bb, off + 6 + 4, none⟩ = _ := fun q => (q.h.cell (p := ⟨bb, off + 6 + 4, none⟩) hbW).trans bq4
  have bm5 : ∀ q : Later W, q.w.cell? ⟨bb, off + 6 + 5, none⟩ = _ := fun q => (q.h.cell (p := ⟨bb, off + 6 + 5, none⟩) hbW).trans bq5
  clear bq0 bq1 bq2 bq3 bq4 bq5
  have C1 : Hid (∀ q : Later W, Calls Tryz.prog 30 #[.agg #[.int .i64 a.k, .string a.s, .int .i64 a.n, .slice ao1 a.l.length ag1, .slice ao2 a.ds.length ag2, .slice ao3 a.al.length ag3], .int .i64 2, .int .i64 n] q.w fun e w' => e = .returned (.string (ofL (atL (txt h).ex a 2 n))) ∧ Below q.w.heap.size q.w w') := fun q => HA.out K a _ q.w n (d + 1) 2 ((reads_later (HB0.out.trans (q.h.mono HB0.out.size)) h).1 _ _ AR.out) aok (by omega) ac (by omega)
  have C2 : Hid (∀ q : Later W, Calls Tryz.prog 30 #[.agg #[.int .i64 b.k, .string b.s, .int .i64 b.n, .slice bo1 b.l.length bg1, .slice bo2 b.ds.length bg2, .slice bo3 b.al.length bg3], .int .i64 3, .int .i64 n] q.w fun e w' => e = .returned (.string (ofL (atL (txt h).ex b 3 n))) ∧ Below q.w.heap.size q.w w') := fun q => HA.out K b _ q.w n (d + 1) 3 ((reads_later (HB0.out.trans (q.h.mono HB0.out.size)) h).1 _ _ BR.out) bok (by omega) bc (by omega)
  have HRES : Hid (ofL (atL (txt h).ex a 2 n) ++ ⟨#[32]⟩ ++ x.s ++ ⟨#[32]⟩ ++ ofL (atL (txt h).ex b 3 n) = ofL ((txt (h + 1)).ex x n)) := by
    apply eq_ofL
    rw [txt_k9 HK.out HL.out, HLV.out]
    simp only [bl_append, bl_ofL, bl_mk, leftL, Nat.reduceEqDiff, Nat.reduceAdd, ↓reduceIte, List.append_assoc, List.cons_append, List.nil_append]
  have Az : (ofL (atL (txt h).ex a 2 n)).size ≤ 250000 := by rw [ofL_size]; omega
  generalize ofL (atL (txt h).ex a 2 n) = A at C1 HRES Az
  have Bz : (ofL (atL (txt h).ex b 3 n)).size ≤ 250000 := by rw [ofL_size]; omega
  generalize ofL (atL (txt h).ex b 3 n) = B at C2 HRES Bz
  have z1 : (A ++ ⟨#[32]⟩).size = A.size + 1 := app_size _ _
  have z2 : (A ++ ⟨#[32]⟩ ++ x.s).size = A.size + 1 + x.s.size := (app_size _ _).trans (by rw [z1])
  have z3 : (A ++ ⟨#[32]⟩ ++ x.s ++ ⟨#[32]⟩).size = A.size + 1 + x.s.size + 1 := (app_size _ _).trans (by rw [z2]; rfl)
  refine wp_region_class (S := fun v => Below W.heap.size W v) (by kernel_rfl) (by kernel_rfl) (below_drew _) ?_
  repeat (first | go_big_quiet_skip | (go_big_quiet_want; go_big_quiet_op; first | go_big_quiet_on | (apply Exists.intro; refine ⟨fun q => ?_, ?_⟩; (first | (go_at_call 30; with_reducible refine (C1.out q).mono ?_; rintro e w9 ⟨rfl, hb9⟩; exact ⟨rfl, Later.on q hb9, rfl⟩) | (go_at_call 30; with_reducible refine (C2.out q).mono ?_; rintro e w9 ⟨rfl, hb9⟩; exact ⟨rfl, Later.on q hb9, rfl⟩)); go_big_quiet_on)))
  refine wpQuiet_nil ?_
  intro _ hw'
  obtain ⟨q, rfl⟩ := hw'
  go_wp2
  go_ret
  exact ⟨ret_str HRES.out, HB0.out.trans (q.h.mono HB0.out.size)⟩
set_option maxHeartbeats 2000000 in
set_option maxRecDepth 100000 in
theorem bare_9_3 {h : Nat} (hA : SpAt h) (hDs : SpDs h) (hAs : SpAs h) {K : Nat → Prop} {x a b : Tr} {cs : List Value} {w : World} {n : Nat} {d : Int} (hr : (reads K w (h + 1)).ex x cs) (hok : (okz (h + 1)).ex x d = true) (hn : (n : Int) ≤ 60 + 4 * d) (hc : (cnt (h + 1)).ex x ≤ 200) (hk : x.k = 9) (hl : x.l = [a, b]) (hsz : x.s.size ≤ 2) (hlv : opLev x.s = 3) : Calls Tryz.prog 56 #[.agg cs.toArray, .int .i64 n] w fun e w' => e = .returned (.string (ofL ((txt (h + 1)).ex x n))) ∧ Below w.heap.size w w' := by
  have O := (ok_of hok).1
  have hdeep := O.deep
  have hcn : (cnt (h + 1)).ex x = 1 + sumZ (cnt h).ex x.l + sumZ (cnt h).al x.al + sumZ (cnt h).de x.ds := rfl
  have aok := O.parts a (by rw [hl]; simp)
  have bok := O.parts b (by rw [hl]; simp)
  have hsum : (cnt h).ex a + (cnt h).ex b ≤ sumZ (cnt h).ex x.l := by rw [hl]; simp [sumZ]
  have ac : (cnt h).ex a ≤ 200 := by omega
  have bc : (cnt h).ex b ≤ 200 := by omega
  obtain ⟨-, o1, c1, o2, c2, o3, c3, rfl, hs, f1, f2, f3, r1, r2, r3⟩ := hr
  have hll : x.l.length = 2 := by rw [hl]; rfl
  rw [hll] at f1
  rw [hl] at r1
  have HB0 : Hid (Below w.heap.size w (w.alloc (.cells #[.int .i64 9, .string x.s, .int .i64 x.n, .slice o1 2 c1, .slice o2 x.ds.length c2, .slice o3 x.al.length c3] 47))) := (Below.refl _ w).alloc (Nat.le_refl _) _
  have HX0 : Hid ((w.alloc (.cells #[.int .i64 9, .string x.s, .int .i64 x.n, .slice o1 2 c1, .slice o2 x.ds.length c2, .slice o3 x.al.length c3] 47)).heap[w.heap.size]? = some (.cells #[.int .i64 9, .string x.s, .int .i64 x.n, .slice o1 2 c1, .slice o2 x.ds.length c2, .slice o3 x.al.length c3] 47 (0, 0))) := heap_alloc_new w _
  obtain ⟨bb, off, rfl, -, hbl, hcs⟩ := r1 (by simp)
  obtain ⟨_, -, ak, ar⟩ := hcs 0 a rfl
  obtain ⟨ao1, ag1, ao2, ag2, ao3, ag3, rfl⟩ := ex_form ar
  have aq0 := (HB0.out.cell (p := ⟨bb, _, none⟩) hbl).trans (ak 0 _ rfl)
  have aq1 := (HB0.out.cell (p := ⟨bb, _, none⟩) hbl).trans (ak 1 _ rfl)
  have aq2 := (HB0.out.cell (p := ⟨bb, _, none⟩) hbl).trans (ak 2 _ rfl)
  have aq3 := (HB0.out.cell (p := ⟨bb, _, none⟩) hbl).trans (ak 3 _ rfl)
  have aq4 := (HB0.out.cell (p := ⟨bb, _, none⟩) hbl).trans (ak 4 _ rfl)
  have aq5 := (HB0.out.cell (p := ⟨bb, _, none⟩) hbl).trans (ak 5 _ rfl)
  simp only [Nat.zero_mul, Nat.one_mul, Nat.reduceMul, Nat.add_zero, Nat.zero_add] at aq0 aq1 aq2 aq3 aq4 aq5
  have AR := hide ar
  clear ak ar
  obtain ⟨_, -, bk, br⟩ := hcs 1 b rfl
  obtain ⟨bo1, bg1, bo2, bg2, bo3, bg3, rfl⟩ := ex_form br
  have bq0 := (HB0.out.cell (p := ⟨bb, _, none⟩) hbl).trans (bk 0 _ rfl)
  have bq1 := (HB0.out.cell (p := ⟨bb, _, none⟩) hbl).trans (bk 1 _ rfl)
  have bq2 := (HB0.out.cell (p := ⟨bb, _, none⟩) hbl).trans (bk 2 _ rfl)
  have bq3 := (HB0.out.cell (p := ⟨bb, _, none⟩) hbl).trans (bk 3 _ rfl)
  have bq4 := (HB0.out.cell (p := ⟨bb, _, none⟩) hbl).trans (bk 4 _ rfl)
  have bq5 := (HB0.out.cell (p := ⟨bb, _, none⟩) hbl).trans (bk 5 _ rfl)
  simp only [Nat.zero_mul, Nat.one_mul, Nat.reduceMul, Nat.add_zero, Nat.zero_add] at bq0 bq1 bq2 bq3 bq4 bq5
  have BR := hide br
  clear bk br
  clear hcs
  have al := (txt_len K w h).ex a _ (d + 1) n AR.out aok (by omega)
  have bl := (txt_len K w h).ex b _ (d + 1) n BR.out bok (by omega)
  have la := (atL_len (txt h).ex a 3 n).1
  have lb := (atL_len (txt h).ex b 4 n).1
  have HLV := hide hlv
  have hs2 : x.s.size ≤ 2 := hsz
  have HLEV : Hid (((levB ⟨9, x.s, x.n, [], [], [], []⟩ : Nat) : Int) = 3) := by
    show ((levB ⟨9, x.s, x.n, [], [], [], []⟩ : Nat) : Int) = 3
    unfold levB
    simp only [Int.reduceEq, or_false, or_self, ↓reduceIte]
    rw [hlv]
    rfl
  have hbW : bb < (w.alloc (.cells #[.int .i64 9, .string x.s, .int .i64 x.n, .slice (some ⟨bb, off, none⟩) 2 c1, .slice o2 x.ds.length c2, .slice o3 x.al.length c3] 47)).heap.size := Nat.lt_of_lt_of_le hbl HB0.out.size
  have R2 := hide r2
  have R3 := hide r3
  have HOK := hide hok
  have HA := hide hA
  have HDS := hide hDs
  have HAS := hide hAs
  have OO := hide O
  have HK := hide hk
  have HL := hide hl
  clear r1 r2 r3 hok hA hDs hAs O hcn
  show Calls Tryz.prog 56 #[.agg #[.int .i64 x.k, .string x.s, .int .i64 x.n, .slice _ x.l.length c1, .slice o2 x.ds.length c2, .slice o3 x.al.length c3], .int .i64 n] w _
  rw [hk, hll]
  clear hk hl hll
  go_enter Tryz.func56, Tryz.ntmps56
  go_wp2_with fail
  refine (level_any ⟨9, x.s, x.n, [], [], [], []⟩ x.n (some ⟨bb, off, none⟩) o2 o3 2 c1 _ c2 _ c3 _).mono ?_
  rintro e W ⟨rfl, hb⟩
  rw [HLEV.out]
  replace aq0 := (hb.cell (p := ⟨bb, _, none⟩) hbW).trans aq0
  replace aq1 := (hb.cell (p := ⟨bb, _, none⟩) hbW).trans aq1
  replace aq2 := (hb.cell (p := ⟨bb, _, none⟩) hbW).trans aq2
  replace aq3 := (hb.cell (p := ⟨bb, _, none⟩) hbW).trans aq3
  replace aq4 := (hb.cell (p := ⟨bb, _, none⟩) hbW).trans aq4
  replace aq5 := (hb.cell (p := ⟨bb, _, none⟩) hbW).trans aq5
  replace bq0 := (hb.cell (p := ⟨bb, _, none⟩) hbW).trans bq0
  replace bq1 := (hb.cell (p := ⟨bb, _, none⟩) hbW).trans bq1
  replace bq2 := (hb.cell (p := ⟨bb, _, none⟩) hbW).trans bq2
  replace bq3 := (hb.cell (p := ⟨bb, _, none⟩) hbW).trans bq3
  replace bq4 := (hb.cell (p := ⟨bb, _, none⟩) hbW).trans bq4
  replace bq5 := (hb.cell (p := ⟨bb, _, none⟩) hbW).trans bq5
  replace hbW := Nat.lt_of_lt_of_le hbW hb.size
  replace HX0 := hide ((hb.block w.heap.size (heap_lt HX0.out)).trans HX0.out)
  replace HB0 := hide (HB0.out.trans (hb.mono HB0.out.size))
  clear hb
  go_wp2_with fail
  have xs1 := later_cell (j := 1) HX0.out rfl
  have xs3 := later_cell (j := 3) HX0.out rfl
  have xs4 := later_cell (j := 4) HX0.out rfl
  have xs5 := later_cell (j := 5) HX0.out rfl
  have hne0 : Nonempty (Later W) := later_nonempty W
  have am0 : ∀ q : Later W, q.w.cell? ⟨bb, off, none⟩ = _ := fun q => (q.h.cell (p := ⟨bb, off, none⟩) hbW).trans aq0
  have am1 : ∀ q : Later W, q.w.cell? ⟨bb, off + 1, none⟩ = _ := fun q => (q.h.cell (p := ⟨bb, off + 1, none⟩) hbW).trans aq1
  have am2 : ∀ q : Later W, q.w.cell? ⟨bb, off + 2, none⟩ = _ := fun q => (q.h.cell (p := ⟨bb, off + 2, none⟩) hbW).trans aq2
  have am3 : ∀ q : Later W, q.w.cell? ⟨bb, off + 3, none⟩ = _ := fun q => (q.h.cell (p := ⟨bb, off + 3, none⟩) hbW).trans aq3
  have am4 : ∀ q : Later W, q.w.cell? ⟨bb, off + 4, none⟩ = _ := fun q => (q.h.cell (p := ⟨bb, off + 4, none⟩) hbW).trans aq4
  have am5 : ∀ q : Later W, q.w.cell? ⟨bb, off + 5, none⟩ = _ := fun q => (q.h.cell (p := ⟨bb, off + 5, none⟩) hbW).trans aq5
  clear aq0 aq1 aq2 aq3 aq4 aq5
  have bm0 : ∀ q : Later W, q.w.cell? ⟨bb, off + 6, none⟩ = _ := fun q => (q.h.cell (p := ⟨bb, off + 6, none⟩) hbW).trans bq0
  have bm1 : ∀ q : Later W, q.w.cell? ⟨bb, off + 6 + 1, none⟩ = _ := fun q => (q.h.cell (p := ⟨bb, off + 6 + 1, none⟩) hbW).trans bq1
  have bm2 : ∀ q : Later W, q.w.cell? ⟨bb, off + 6 + 2, none⟩ = _ := fun q => (q.h.cell (p := ⟨bb, off + 6 + 2, none⟩) hbW).trans bq2
  have bm3 : ∀ q : Later W, q.w.cell? ⟨bb, off + 6 + 3, none⟩ = _ := fun q => (q.h.cell (p := ⟨bb, off + 6 + 3, none⟩) hbW).trans bq3
  have bm4 : ∀ q : Later W, q.w.cell? ⟨bb, off + 6 + 4, none⟩ = _ := fun q => (q.h.cell (p := ⟨bb, off + 6 + 4, none⟩) hbW).trans bq4
  have bm5 : ∀ q : Later W, q.w.cell? ⟨bb, off + 6 + 5, none⟩ = _ := fun q => (q.h.cell (p := ⟨bb, off + 6 + 5, none⟩) hbW).trans bq5
  clear bq0 bq1 bq2 bq3 bq4 bq5
  have C1 : Hid (∀ q : Later W, Calls Tryz.prog 30 #[.agg #[.int .i64 a.k, .string a.s, .int .i64 a.n, .slice ao1 a.l.length ag1, .slice ao2 a.ds.length ag2, .slice ao3 a.al.length ag3], .int .i64 3, .int .i64 n] q.w fun e w' => e = .returned (.string (ofL (atL (txt h).ex a 3 n))) ∧ Below q.w.heap.size q.w w') := fun q => HA.out K a _ q.w n (d + 1) 3 ((reads_later (HB0.out.trans (q.h.mono HB0.out.size)) h).1 _ _ AR.out) aok (by omega) ac (by omega)
  have C2 : Hid (∀ q : Later W, Calls Tryz.prog 30 #[.agg #[.int .i64 b.k, .string b.s, .int .i64 b.n, .slice bo1 b.l.length bg1, .slice bo2 b.ds.length bg2, .slice bo3 b.al.length bg3], .int .i64 4, .int .i64 n] q.w fun e w' => e = .returned (.string (ofL (atL (txt h).ex b 4 n))) ∧ Below q.w.heap.size q.w w') := fun q => HA.out K b _ q.w n (d + 1) 4 ((reads_later (HB0.out.trans (q.h.mono HB0.out.size)) h).1 _ _ BR.out) bok (by omega) bc (by omega)
  have HRES : Hid (ofL (atL (txt h).ex a 3 n) ++ ⟨#[32]⟩ ++ x.s ++ ⟨#[32]⟩ ++ ofL (atL (txt h).ex b 4 n) = ofL ((txt (h + 1)).ex x n)) := by
    apply eq_ofL
    rw [txt_k9 HK.out HL.out, HLV.out]
    simp only [bl_append, bl_ofL, bl_mk, leftL, Nat.reduceEqDiff, Nat.reduceAdd, ↓reduceIte, List.append_assoc, List.cons_append, List.nil_append]
  have Az : (ofL (atL (txt h).ex a 3 n)).size ≤ 250000 := by rw [ofL_size]; omega
  generalize ofL (atL (txt h).ex a 3 n) = A at C1 HRES Az
  have Bz : (ofL (atL (txt h).ex b 4 n)).size ≤ 250000 := by rw [ofL_size]; omega
  generalize ofL (atL (txt h).ex b 4 n) = B at C2 HRES Bz
  have z1 : (A ++ ⟨#[32]⟩).size = A.size + 1 := app_size _ _
  have z2 : (A ++ ⟨#[32]⟩ ++ x.s).size = A.size + 1 + x.s.size := (app_size _ _).trans (by rw [z1])
  have z3 : (A ++ ⟨#[32]⟩ ++ x.s ++ ⟨#[32]⟩).size = A.size + 1 + x.s.size + 1 := (app_size _ _).trans (by rw [z2]; rfl)
  refine wp_region_class (S := fun v => Below W.heap.size W v) (by kernel_rfl) (by kernel_rfl) (below_drew _) ?_
  repeat (first | go_big_quiet_skip | (go_big_quiet_want; go_big_quiet_op; first | go_big_quiet_on | (apply Exists.intro; refine ⟨fun q => ?_, ?_⟩; (first | (go_at_call 30; with_reducible refine (C1.out q).mono ?_; rintro e w9 ⟨rfl, hb9⟩; exact ⟨rfl, Later.on q hb9, rfl⟩) | (go_at_call 30; with_reducible refine (C2.out q).mono ?_; rintro e w9 ⟨rfl, hb9⟩; exact ⟨rfl, Later.on q hb9, rfl⟩)); go_big_quiet_on)))
  refine wpQuiet_nil ?_
  intro _ hw'
  obtain ⟨q, rfl⟩ := hw'
  go_wp2
  go_ret
  exact ⟨ret_str HRES.out, HB0.out.trans (q.h.mono HB0.out.size)⟩
theorem de_deep {K : Nat → Prop} {w : World} {h : Nat} {x : Tr} {cs : List Value} {d : Int} (hr : (reads K w h).de x cs) (hok : (okz h).de x d = true) : d ≤ 11 := by
  cases h with
  | zero => exact hr.elim
  | succ h =>
    obtain ⟨-, -, hb, -⟩ := okd_of hok
    obtain ⟨-, -, -, e, o1, c1, ce, o2, c2, hl, -⟩ := hr
    have := okz_12 (hb e (by rw [hl]; simp))
    omega
theorem alt_of {x : Tr} (h : altB x = true) : x.s.size ≤ 8 ∧ (x.ss.length ≤ 4 ∧ ∀ s, s ∈ x.ss → s.size ≤ 8 ∧ 1 ≤ s.size) := by
  unfold altB at h
  simp only [Bool.and_eq_true, Bool.or_eq_true] at h
  refine ⟨?_, vars_le h.1⟩
  rcases h.2 with h1 | ⟨h1, -⟩
  · exact (gr_size h1).1
  · rw [empty_size h1]; show 0 ≤ 8; omega

set_option maxHeartbeats 2000000 in
set_option maxRecDepth 100000 in
theorem alts_of {h : Nat} (hA : SpAt h) : SpAs (h + 1) := by
  intro K xs o c w n d hm hl hl1 hal hd hn hc
  have HA := hide hA
  have HM := hide hm
  have HAL := hide hal
  have hl2 : xs.length ≤ 9223372036854775807 := hl
  have hn2 : n ≤ 120 := by omega
  have HLT : Hid ((linesL (txt (h + 1)).al xs n).length ≤ 200000) := by
    have := linesL_len (txt (h + 1)).al (cnt (h + 1)).al xs n hn2 fun y hy => by
      obtain ⟨cs, hc⟩ := row_mem hm hy
      exact (txt_len K w (h + 1)).al y cs d n hc (hal y hy).1 (hal y hy).2 hn
    show (linesL (txt (h + 1)).al xs n).length ≤ 200000
    omega
  clear hA hm hal hl
  go_enter Tryz.func84, Tryz.ntmps84
  go_wp2
  go_loopw [5, 6] (fun t5 t6 wr => ∃ i : Nat, i ≤ xs.length ∧ t6 = .int .i64 i ∧ t5 = .string (ofL (linesL (txt (h + 1)).al (xs.take i) n)) ∧ Below w.heap.size w wr) (fun _ t6 _ => xs.length - (intOf t6).toNat)
  case atStart => exact ⟨0, Nat.zero_le _, rfl, rfl, Below.refl _ _⟩
  case round =>
    obtain ⟨i, hi, rfl, rfl, hbw⟩ := hrel
    have HBW := hide hbw
    clear hbw
    have hz := Nat.le_trans (lines_take_len (txt (h + 1)).al xs i n) HLT.out
    by_cases hlt : i < xs.length
    · have hne : xs ≠ [] := by intro e; rw [e] at hlt; simp at hlt
      obtain ⟨x, hx⟩ : ∃ x, xs[i]? = some x := ⟨xs[i], List.getElem?_eq_getElem hlt⟩
      obtain ⟨b, off, eo, -, hbl, hcs⟩ := (HM.out.later HBW.out (reads_later HBW.out (h + 1)).2.2) hne
      subst eo
      obtain ⟨cs, hlen, hkey, hrd⟩ := hcs i x hx
      have hmem := List.mem_of_getElem? hx
      obtain ⟨hab, hok⟩ := HAL.out x hmem
      have hsz := alt_of hab
      have hcx : (cnt (h + 1)).al x ≤ 200 := Nat.le_trans (part_sum hx) hc
      obtain ⟨-, -, -, -, y, p0, g0, ce, hy, rfl, -, hf0, hrs, hce, hre⟩ := hrd
      obtain ⟨p1, g1, p2, g2, p3, g3, rfl⟩ := ex_form hre
      have q0 := hkey 0 (.string x.s) rfl
      have q1 := hkey 1 (.slice p0 x.ss.length g0) rfl
      have q2 := hkey 2 (.int .i64 y.k) rfl
      have q3 := hkey 3 (.string y.s) rfl
      have q4 := hkey 4 (.int .i64 y.n) rfl
      have q5 := hkey 5 (.slice p1 y.l.length g1) rfl
      have q6 := hkey 6 (.slice p2 y.ds.length g2) rfl
      have q7 := hkey 7 (.slice p3 y.al.length g3) rfl
      rw [Nat.add_zero] at q0
      have hyo := oka_of hok y (by rw [hy]; simp)
      have hcy : (cnt h).ex y ≤ 200 := by
        have h1 : (cnt (h + 1)).al x = sumZ (cnt h).ex x.l := rfl
        have h2 : (cnt h).ex y ≤ sumZ (cnt h).ex x.l := part_sum (i := 0) (by rw [hy]; rfl)
        omega
      have hly := (txt_len K wr h).ex y _ d (n + 2) hre hyo (by omega)
      have hhd := headL_len x.s x.ss hsz.1 hsz.2
      have hpd := padL_len n
      have m0 : ∀ q : Later wr, q.w.cell? ⟨b, off + i * 8, none⟩ = _ := fun q => (q.h.cell (p := ⟨b, off + i * 8, none⟩) hbl).trans q0
      have m1 : ∀ q : Later wr, q.w.cell? ⟨b, off + i * 8 + 1, none⟩ = _ := fun q => (q.h.cell (p := ⟨b, off + i * 8 + 1, none⟩) hbl).trans q1
      have m2 : ∀ q : Later wr, q.w.cell? ⟨b, off + i * 8 + 2, none⟩ = _ := fun q => (q.h.cell (p := ⟨b, off + i * 8 + 2, none⟩) hbl).trans q2
      have m3 : ∀ q : Later wr, q.w.cell? ⟨b, off + i * 8 + 2 + 1, none⟩ = _ := fun q => (q.h.cell (p := ⟨b, off + i * 8 + 3, none⟩) hbl).trans q3
      have m4 : ∀ q : Later wr, q.w.cell? ⟨b, off + i * 8 + 2 + 2, none⟩ = _ := fun q => (q.h.cell (p := ⟨b, off + i * 8 + 4, none⟩) hbl).trans q4
      have m5 : ∀ q : Later wr, q.w.cell? ⟨b, off + i * 8 + 2 + 3, none⟩ = _ := fun q => (q.h.cell (p := ⟨b, off + i * 8 + 5, none⟩) hbl).trans q5
      have m6 : ∀ q : Later wr, q.w.cell? ⟨b, off + i * 8 + 2 + 4, none⟩ = _ := fun q => (q.h.cell (p := ⟨b, off + i * 8 + 6, none⟩) hbl).trans q6
      have m7 : ∀ q : Later wr, q.w.cell? ⟨b, off + i * 8 + 2 + 5, none⟩ = _ := fun q => (q.h.cell (p := ⟨b, off + i * 8 + 7, none⟩) hbl).trans q7
      have C1 : Hid (∀ q : Later wr, Calls Tryz.prog 28 #[.int .i64 n] q.w fun e w' => e = .returned (.string (ofL (padL n))) ∧ Below q.w.heap.size q.w w') := fun q => pad_any n (by omega) q.w
      have C2 : Hid (∀ q : Later wr, Calls Tryz.prog 29 #[.string x.s, .slice p0 x.ss.length g0] q.w fun e w' => e = .returned (.string (ofL (headL x.s x.ss))) ∧ Below q.w.heap.size q.w w') := fun q => words_any (K := K) x.s x.ss p0 g0 q.w hsz.1 hsz.2 (hrs.later q.h fun _ _ h => h)
      have C3 : Hid (∀ q : Later wr, Calls Tryz.prog 30 #[.agg #[.int .i64 y.k, .string y.s, .int .i64 y.n, .slice p1 y.l.length g1, .slice p2 y.ds.length g2, .slice p3 y.al.length g3], .int .i64 0, .int .i64 ((n : Int) + 2)] q.w fun e w' => e = .returned (.string (ofL (atL (txt h).ex y 0 (n + 2)))) ∧ Below q.w.heap.size q.w w') := fun q => HA.out K y _ q.w (n + 2) d 0 ((reads_later q.h h).1 _ _ hre) hyo (by omega) hcy (by omega)
      rw [at_zero] at C3
      have wn : IntKind.i64.wrap ((n : Int) + 2) = (n : Int) + 2 := wrap_add (by omega) (by omega) (by omega) (by omega)
      have HRES : Hid (ofL (linesL (txt (h + 1)).al (xs.take i) n) ++ ⟨#[10]⟩ ++ ofL (padL n) ++ ofL (headL x.s x.ss) ++ ⟨#[32, 45, 62, 32]⟩ ++ ofL ((txt h).ex y (n + 2)) = ofL (linesL (txt (h + 1)).al (xs.take (i + 1)) n)) := by
        apply eq_ofL
        rw [lines_take _ _ _ _ _ hx, txt_al hy]
        simp only [bl_append, bl_ofL, bl_mk, List.append_assoc, List.cons_append, List.nil_append]
      have hlt2 : (i : Int) < xs.length := by omega
      have Sz : (ofL (linesL (txt (h + 1)).al (xs.take i) n)).size ≤ 200000 := by rw [ofL_size]; exact hz
      have Pz : (ofL (padL n)).size ≤ 200 := by rw [ofL_size]; omega
      have Hz : (ofL (headL x.s x.ss)).size ≤ 44 := by rw [ofL_size]; omega
      have Ez : (ofL ((txt h).ex y (n + 2))).size ≤ 200000 := by rw [ofL_size]; omega
      generalize ofL (linesL (txt (h + 1)).al (xs.take i) n) = S at HRES Sz ⊢
      generalize ofL (padL n) = P at HRES Pz C1
      generalize ofL (headL x.s x.ss) = H at HRES Hz C2
      generalize ofL ((txt h).ex y (n + 2)) = E at HRES Ez C3
      have z1 : (S ++ ⟨#[10]⟩).size = S.size + 1 := app_size _ _
      have z2 : (S ++ ⟨#[10]⟩ ++ P).size = S.size + 1 + P.size := (app_size _ _).trans (by rw [z1])
      have z3 : (S ++ ⟨#[10]⟩ ++ P ++ H).size = S.size + 1 + P.size + H.size := (app_size _ _).trans (by rw [z2])
      have z4 : (S ++ ⟨#[10]⟩ ++ P ++ H ++ ⟨#[32, 45, 62, 32]⟩).size = S.size + 1 + P.size + H.size + 4 := (app_size _ _).trans (by rw [z3]; rfl)
      clear hcs hx hne hkey hlen hz hre hrs hly hyo hok hab hsz hf0 hce q0 q1 q2 q3 q4 q5 q6 q7 hmem hy
      have hne0 : Nonempty (Later wr) := later_nonempty wr
      go_wp2_with fail
      refine wp_region_class (S := fun v => Below wr.heap.size wr v) (by kernel_rfl) (by kernel_rfl) (below_drew _) ?_
      repeat (first | go_big_quiet_skip | (go_big_quiet_want; go_big_quiet_op; first | go_big_quiet_on | (apply Exists.intro; refine ⟨fun q => ?_, ?_⟩; (first | (go_at_call 28; with_reducible refine (C1.out q).mono ?_; rintro e w9 ⟨rfl, hb9⟩; exact ⟨rfl, Later.on q hb9, rfl⟩) | (go_at_call 29; with_reducible refine (C2.out q).mono ?_; rintro e w9 ⟨rfl, hb9⟩; exact ⟨rfl, Later.on q hb9, rfl⟩) | (go_at_call 30; with_reducible refine (C3.out q).mono ?_; rintro e w9 ⟨rfl, hb9⟩; exact ⟨rfl, Later.on q hb9, rfl⟩)); go_big_quiet_on)))
      refine wpQuiet_nil ?_
      intro _ hw'
      obtain ⟨q, rfl⟩ := hw'
      go_wp2
      exact ⟨⟨i + 1, by omega, by go_num, by rw [HRES.out], HBW.out.trans (q.h.mono HBW.out.size)⟩, by simp [intOf]; omega⟩
    · have hlt2 : ¬ (i : Int) < xs.length := by omega
      have hin : i = xs.length := by omega
      subst hin
      go_wp2
      go_ret
      exact ⟨ret_str (by first | rfl | rw [List.take_length]), HBW.out⟩
theorem drop_snoc (f : Tr → Nat → List UInt8) (xs : List Tr) (i : Nat) (x : Tr) (n : Nat) (hx : xs[i]? = some x) : (linesL f (xs.take (i + 1)) n).drop 1 = (if i = 0 then padL n ++ f x n else (linesL f (xs.take i) n).drop 1 ++ (10 :: (padL n ++ f x n))) := by
  rw [lines_take f xs i x n hx]
  split
  · rename_i h0
    subst h0
    simp [linesL]
  · rename_i h0
    have hlen : i < xs.length := (List.getElem?_eq_some_iff.1 hx).1
    have h1 := lines_drop f (xs.take i) n (by rw [List.length_take]; omega)
    rw [h1]
    simp
set_option maxHeartbeats 2000000 in
set_option maxRecDepth 100000 in
theorem decs_of_dec {h : Nat} (hD : SpDe h) : SpDs h := by
  intro K xs o c w n d hm hl hal hd hn hc
  have HD := hide hD
  have HM := hide hm
  have HAL := hide hal
  have hl2 : xs.length ≤ 9223372036854775807 := hl
  have hn2 : n ≤ 120 := by omega
  have HLT : Hid ((linesL (txt h).de xs n).length ≤ 200000) := by
    have := linesL_len (txt h).de (cnt h).de xs n hn2 fun y hy => by
      obtain ⟨cs, hc⟩ := row_mem hm hy
      exact (txt_len K w h).de y cs d n hc (hal y hy) hn
    show (linesL (txt h).de xs n).length ≤ 200000
    omega
  clear hD hm hal hl
  go_enter Tryz.func31, Tryz.ntmps31
  go_wp2
  go_loopw [5, 6] (fun t5 t6 wr => ∃ i : Nat, i ≤ xs.length ∧ t6 = .int .i64 i ∧ t5 = .string (ofL ((linesL (txt h).de (xs.take i) n).drop 1)) ∧ Below w.heap.size w wr) (fun _ t6 _ => xs.length - (intOf t6).toNat)
  case atStart => exact ⟨0, Nat.zero_le _, rfl, rfl, Below.refl _ _⟩
  case round =>
    obtain ⟨i, hi, rfl, rfl, hbw⟩ := hrel
    have HBW := hide hbw
    clear hbw
    have hz : ((linesL (txt h).de (xs.take i) n).drop 1).length ≤ 200000 := by
      have := Nat.le_trans (lines_take_len (txt h).de xs i n) HLT.out
      rw [List.length_drop]; omega
    by_cases hlt : i < xs.length
    · have hne : xs ≠ [] := by intro e; rw [e] at hlt; simp at hlt
      obtain ⟨x, hx⟩ : ∃ x, xs[i]? = some x := ⟨xs[i], List.getElem?_eq_getElem hlt⟩
      obtain ⟨b, off, eo, -, hbl, hcs⟩ := (HM.out.later HBW.out (reads_later HBW.out h).2.1) hne
      subst eo
      obtain ⟨cs, hlen, hkey, hrd⟩ := hcs i x hx
      have hmem := List.mem_of_getElem? hx
      have hok := HAL.out x hmem
      have hcx : (cnt h).de x ≤ 200 := Nat.le_trans (part_sum hx) hc
      have hlx := (txt_len K wr h).de x _ d n hrd hok hn
      have hpd := padL_len n
      obtain ⟨v0, v1, v2, v3, v4, v5, v6, v7, v8, rfl⟩ := nine hlen
      have q0 := hkey 0 _ rfl
      have q1 := hkey 1 _ rfl
      have q2 := hkey 2 _ rfl
      have q3 := hkey 3 _ rfl
      have q4 := hkey 4 _ rfl
      have q5 := hkey 5 _ rfl
      have q6 := hkey 6 _ rfl
      have q7 := hkey 7 _ rfl
      have q8 := hkey 8 _ rfl
      rw [Nat.add_zero] at q0
      have HCALL := hide (HD.out K x _ wr n d hrd hok hn hcx)
      have HDS := hide (drop_snoc (txt h).de xs i x n hx)
      have Sz : (ofL ((linesL (txt h).de (xs.take i) n).drop 1)).size ≤ 200000 := by rw [ofL_size]; exact hz
      have Ez : (ofL (padL n ++ (txt h).de x n)).size ≤ 200200 := by rw [ofL_size, List.length_append]; omega
      have hlt2 : (i : Int) < xs.length := by omega
      clear hcs hx hne hkey hlen hrd hmem hok hlx hpd hz
      by_cases h0 : i = 0
      · subst h0
        simp only [Nat.zero_mul, Nat.add_zero] at q0 q1 q2 q3 q4 q5 q6 q7 q8
        have HRES : Hid (ofL ((linesL (txt h).de (xs.take 0) n).drop 1) ++ ofL (padL n ++ (txt h).de x n) = ofL ((linesL (txt h).de (xs.take (0 + 1)) n).drop 1)) := by
          apply eq_ofL
          rw [HDS.out, if_pos rfl]
          simp [bl_append, bl_ofL, linesL]
        generalize ofL ((linesL (txt h).de (xs.take 0) n).drop 1) = S at HRES Sz ⊢
        generalize ofL (padL n ++ (txt h).de x n) = E at HRES Ez HCALL
        go_wp2_with fail
        refine HCALL.out.mono ?_
        rintro e w1 ⟨rfl, hb⟩
        have HB1 := hide (HBW.out.trans (hb.mono HBW.out.size))
        clear hb
        go_wp2
        exact ⟨⟨1, by omega, by go_num, by rw [HRES.out], HB1.out⟩, by simp [intOf]; omega⟩
      · have HRES : Hid (ofL ((linesL (txt h).de (xs.take i) n).drop 1) ++ ⟨#[10]⟩ ++ ofL (padL n ++ (txt h).de x n) = ofL ((linesL (txt h).de (xs.take (i + 1)) n).drop 1)) := by
          apply eq_ofL
          rw [HDS.out, if_neg h0]
          simp [bl_append, bl_ofL, bl_mk]
        generalize ofL ((linesL (txt h).de (xs.take i) n).drop 1) = S at HRES Sz ⊢
        generalize ofL (padL n ++ (txt h).de x n) = E at HRES Ez HCALL
        have z1 : (S ++ ⟨#[10]⟩).size = S.size + 1 := app_size _ _
        have h02 : (0 : Int) < i := by omega
        go_wp2_with fail
        refine HCALL.out.mono ?_
        rintro e w1 ⟨rfl, hb⟩
        have HB1 := hide (HBW.out.trans (hb.mono HBW.out.size))
        clear hb
        go_wp2
        exact ⟨⟨i + 1, by omega, by go_num, by rw [HRES.out], HB1.out⟩, by simp [intOf]; omega⟩
    · have hlt2 : ¬ (i : Int) < xs.length := by omega
      have hin : i = xs.length := by omega
      subst hin
      go_wp2
      go_ret
      exact ⟨ret_str (by first | rfl | rw [List.take_length]), HBW.out⟩

set_option maxHeartbeats 4000000 in
set_option maxRecDepth 100000 in
theorem dec_of {h : Nat} (hA : SpAt h) (hD : SpDs h) : SpDe (h + 1) := by
  intro K x cs w n d hr hok hn hc
  have hd11 := de_deep hr hok
  obtain ⟨hs, hv, hb, hw⟩ := okd_of hok
  have hsz := (nm_size hs).1
  have hvs := vars_le hv
  obtain ⟨-, -, -, e, o1, c1, ce, o2, c2, hl, rfl, -, hf1, hf2, hrs, -, hre, hrd⟩ := hr
  obtain ⟨p1, g1, p2, g2, p3, g3, rfl⟩ := ex_form hre
  have heo := hb e (by rw [hl]; simp)
  have hcn : (cnt (h + 1)).de x = sumZ (cnt h).ex x.l + sumZ (cnt h).de x.ds := rfl
  have hce : (cnt h).ex e ≤ sumZ (cnt h).ex x.l := part_sum (i := 0) (by rw [hl]; rfl)
  have hle := (txt_len K w h).ex e _ (d + 1) (n + 2) hre heo (by omega)
  have hhd := headL_len x.s x.ss hsz hvs
  have hpd := padL_len n
  have hpd2 := padL_len (n + 2)
  have HRS := hide hrs
  have HRE := hide hre
  have HRD := hide hrd
  have HW := hide hw
  have HL := hide hl
  have HA := hide hA
  have HD := hide hD
  have hl2 : x.ds.length ≤ 9223372036854775807 := hf2.1
  clear hok hb hs hv hrs hre hrd hw hl hA hD
  show Calls Tryz.prog 13 #[.agg #[.string x.s, .slice o1 x.ss.length c1, .int .i64 e.k, .string e.s, .int .i64 e.n, .slice p1 e.l.length g1, .slice p2 e.ds.length g2, .slice p3 e.al.length g3, .slice o2 x.ds.length c2], .int .i64 n] w _
  have HB0 : Hid (Below w.heap.size w (w.alloc (.cells #[.string x.s, .slice o1 x.ss.length c1, .int .i64 e.k, .string e.s, .int .i64 e.n, .slice p1 e.l.length g1, .slice p2 e.ds.length g2, .slice p3 e.al.length g3, .slice o2 x.ds.length c2] 49))) := (Below.refl _ w).alloc (Nat.le_refl _) _
  have HX0 : Hid ((w.alloc (.cells #[.string x.s, .slice o1 x.ss.length c1, .int .i64 e.k, .string e.s, .int .i64 e.n, .slice p1 e.l.length g1, .slice p2 e.ds.length g2, .slice p3 e.al.length g3, .slice o2 x.ds.length c2] 49)).heap[w.heap.size]? = some (.cells #[.string x.s, .slice o1 x.ss.length c1, .int .i64 e.k, .string e.s, .int .i64 e.n, .slice p1 e.l.length g1, .slice p2 e.ds.length g2, .slice p3 e.al.length g3, .slice o2 x.ds.length c2] 49 (0, 0))) := heap_alloc_new w _
  go_enter Tryz.func13, Tryz.ntmps13
  go_wp2_with fail
  generalize (w.alloc (.cells #[.string x.s, .slice o1 x.ss.length c1, .int .i64 e.k, .string e.s, .int .i64 e.n, .slice p1 e.l.length g1, .slice p2 e.ds.length g2, .slice p3 e.al.length g3, .slice o2 x.ds.length c2] 49)) = W at *
  have x0 := later_cell (j := 0) HX0.out rfl
  have x1 := later_cell (j := 1) HX0.out rfl
  have x2 := later_cell (j := 2) HX0.out rfl
  have x3 := later_cell (j := 2 + 1) HX0.out rfl
  have x4 := later_cell (j := 2 + 2) HX0.out rfl
  have x5 := later_cell (j := 2 + 3) HX0.out rfl
  have x6 := later_cell (j := 2 + 4) HX0.out rfl
  have x7 := later_cell (j := 2 + 5) HX0.out rfl
  simp only [Nat.reduceAdd] at x3 x4 x5 x6 x7
  have hne0 : Nonempty (Later W) := later_nonempty W
  have C1 : Hid (∀ q : Later W, Calls Tryz.prog 28 #[.int .i64 n] q.w fun e w' => e = .returned (.string (ofL (padL n))) ∧ Below q.w.heap.size q.w w') := fun q => pad_any n (by omega) q.w
  have C2 : Hid (∀ q : Later W, Calls Tryz.prog 29 #[.string x.s, .slice o1 x.ss.length c1] q.w fun e w' => e = .returned (.string (ofL (headL x.s x.ss))) ∧ Below q.w.heap.size q.w w') := fun q => words_any (K := K) x.s x.ss o1 c1 q.w hsz hvs (HRS.out.later (HB0.out.trans (q.h.mono HB0.out.size)) fun _ _ h => h)
  have C3 : Hid (∀ q : Later W, Calls Tryz.prog 30 #[.agg #[.int .i64 e.k, .string e.s, .int .i64 e.n, .slice p1 e.l.length g1, .slice p2 e.ds.length g2, .slice p3 e.al.length g3], .int .i64 0, .int .i64 ((n : Int) + 2)] q.w fun r w' => r = .returned (.string (ofL (atL (txt h).ex e 0 (n + 2)))) ∧ Below q.w.heap.size q.w w') := fun q => HA.out K e _ q.w (n + 2) (d + 1) 0 ((reads_later (HB0.out.trans (q.h.mono HB0.out.size)) h).1 _ _ HRE.out) heo (by omega) (by omega) (by omega)
  rw [at_zero] at C3
  have wn : IntKind.i64.wrap ((n : Int) + 2) = (n : Int) + 2 := wrap_add (by omega) (by omega) (by omega) (by omega)
  have wn4 : IntKind.i64.wrap ((n : Int) + 4) = (n : Int) + 4 := wrap_add (by omega) (by omega) (by omega) (by omega)
  have Pz : (ofL (padL n)).size ≤ 200 := by rw [ofL_size]; omega
  have Hz : (ofL (headL x.s x.ss)).size ≤ 44 := by rw [ofL_size]; omega
  have Ez : (ofL ((txt h).ex e (n + 2))).size ≤ 200000 := by rw [ofL_size]; omega
  have HRES : Hid (ofL (padL n) ++ ofL (headL x.s x.ss) ++ ⟨#[32, 61, 32]⟩ ++ ofL ((txt h).ex e (n + 2)) = ofL (padL n ++ (headL x.s x.ss ++ ([32, 61, 32] ++ (txt h).ex e (n + 2))))) := by
    apply eq_ofL
    simp only [bl_append, bl_ofL, bl_mk, List.append_assoc, List.cons_append, List.nil_append]
  generalize ofL (padL n) = P at HRES Pz C1
  generalize ofL (headL x.s x.ss) = H at HRES Hz C2
  generalize ofL ((txt h).ex e (n + 2)) = E at HRES Ez C3
  have z1 : (P ++ H).size = P.size + H.size := app_size _ _
  have z2 : (P ++ H ++ ⟨#[32, 61, 32]⟩).size = P.size + H.size + 3 := (app_size _ _).trans (by rw [z1]; rfl)
  have z3 : (P ++ H ++ ⟨#[32, 61, 32]⟩ ++ E).size = P.size + H.size + 3 + E.size := (app_size _ _).trans (by rw [z2])
  refine wp_region_class (S := fun v => Below W.heap.size W v) (by kernel_rfl) (by kernel_rfl) (below_drew _) ?_
  repeat (first | go_big_quiet_skip | (go_big_quiet_want; go_big_quiet_op; first | go_big_quiet_on | (apply Exists.intro; refine ⟨fun q => ?_, ?_⟩; (first | (go_at_call 28; with_reducible refine (C1.out q).mono ?_; rintro e w9 ⟨rfl, hb9⟩; exact ⟨rfl, Later.on q hb9, rfl⟩) | (go_at_call 29; with_reducible refine (C2.out q).mono ?_; rintro e w9 ⟨rfl, hb9⟩; exact ⟨rfl, Later.on q hb9, rfl⟩) | (go_at_call 30; with_reducible refine (C3.out q).mono ?_; rintro e w9 ⟨rfl, hb9⟩; exact ⟨rfl, Later.on q hb9, rfl⟩)); go_big_quiet_on)))
  refine wpQuiet_nil ?_
  intro W1 hw'
  obtain ⟨⟨_, hW1⟩, rfl⟩ := hw'
  clear x0 x1 x2 x3 x4 x5 x6 x7 C1 C2 C3 hne0 z1 z2
  generalize P ++ H ++ ⟨#[32, 61, 32]⟩ ++ E = S at HRES z3 ⊢
  have HX1 := hide ((hW1.block w.heap.size (heap_lt HX0.out)).trans HX0.out)
  have HB1 := hide (HB0.out.trans (hW1.mono HB0.out.size))
  have x8 := cell_of HX1.out 8
  simp only [List.getElem?_toArray, List.getElem?_cons_succ, List.getElem?_cons_zero] at x8
  clear hW1
  by_cases hds : x.ds.length = 0
  · have hnil := zlen0 hds
    have hds2 : ¬ (0 : Int) < x.ds.length := by omega
    go_wp2
    go_ret
    refine ⟨ret_str ?_, HB1.out⟩
    rw [HRES.out, txt_de HL.out, hnil]
    simp [whereL]
  · have hds2 : (0 : Int) < x.ds.length := by omega
    have hne : x.ds ≠ [] := fun hc => hds (by rw [hc]; rfl)
    have hwh := HW.out.resolve_left hne
    have hlw := linesL_len (txt h).de (cnt h).de x.ds (n + 4) (by omega) fun y hy => by
      obtain ⟨cs, hc⟩ := row_mem HRD.out hy
      exact (txt_len K w h).de y cs (d + 1) (n + 4) hc (hwh.2 y hy) (by omega)
    have hdr := lines_drop (txt h).de x.ds (n + 4) hwh.1
    have x8m := later_cell (j := 8) HX1.out rfl
    have D1 : Hid (∀ q : Later W1, Calls Tryz.prog 28 #[.int .i64 ((n : Int) + 2)] q.w fun e w' => e = .returned (.string (ofL (padL (n + 2)))) ∧ Below q.w.heap.size q.w w') := fun q => pad_any (n + 2) (by omega) q.w
    have D2 : Hid (∀ q : Later W1, Calls Tryz.prog 31 #[.slice o2 x.ds.length c2, .int .i64 ((n : Int) + 4)] q.w fun e w' => e = .returned (.string (ofL ((linesL (txt h).de x.ds (n + 4)).drop 1))) ∧ Below q.w.heap.size q.w w') := fun q => HD.out K x.ds o2 c2 q.w (n + 4) (d + 1) (HRD.out.later (HB1.out.trans (q.h.mono HB1.out.size)) (reads_later (HB1.out.trans (q.h.mono HB1.out.size)) h).2.1) hf2.1 hwh.2 (by omega) (by omega) (by omega)
    have HRES2 : Hid (S ++ ⟨#[10]⟩ ++ ofL (padL (n + 2)) ++ ⟨#[119, 104, 101, 114, 101, 10]⟩ ++ ofL ((linesL (txt h).de x.ds (n + 4)).drop 1) = ofL (padL n ++ (txt (h + 1)).de x n)) := by
      apply eq_ofL
      rw [txt_de HL.out, HRES.out]
      unfold whereL
      rw [if_neg hne, hdr]
      simp only [bl_append, bl_ofL, bl_mk, List.append_assoc, List.cons_append, List.nil_append, List.drop_succ_cons, List.drop_zero]
    have Qz : (ofL (padL (n + 2))).size ≤ 200 := by rw [ofL_size]; omega
    have Tz : (ofL ((linesL (txt h).de x.ds (n + 4)).drop 1)).size ≤ 200000 := by rw [ofL_size, List.length_drop]; omega
    have Sz : S.size ≤ 200300 := by omega
    clear hdr x8 z3 HRES hne hwh
    generalize ofL (padL (n + 2)) = Q at HRES2 Qz D1
    generalize ofL ((linesL (txt h).de x.ds (n + 4)).drop 1) = T at HRES2 Tz D2
    have y1 : (S ++ ⟨#[10]⟩).size = S.size + 1 := app_size _ _
    have y2 : (S ++ ⟨#[10]⟩ ++ Q).size = S.size + 1 + Q.size := (app_size _ _).trans (by rw [y1])
    have y3 : (S ++ ⟨#[10]⟩ ++ Q ++ ⟨#[119, 104, 101, 114, 101, 10]⟩).size = S.size + 1 + Q.size + 6 := (app_size _ _).trans (by rw [y2]; rfl)
    have x8 := cell_of HX1.out 8
    simp only [List.getElem?_toArray, List.getElem?_cons_succ, List.getElem?_cons_zero] at x8
    have hne1 : Nonempty (Later W1) := later_nonempty W1
    go_wp2_with fail
    refine wp_region_class (S := fun v => Below W1.heap.size W1 v) (by kernel_rfl) (by kernel_rfl) (below_drew _) ?_
    clear x8
    repeat (first | go_big_quiet_skip | (go_big_quiet_want; go_big_quiet_op; first | go_big_quiet_on | (apply Exists.intro; refine ⟨fun q => ?_, ?_⟩; (first | (go_at_call 28; with_reducible refine (D1.out q).mono ?_; rintro e w9 ⟨rfl, hb9⟩; exact ⟨rfl, Later.on q hb9, rfl⟩) | (go_at_call 31; with_reducible refine (D2.out q).mono ?_; rintro e w9 ⟨rfl, hb9⟩; exact ⟨rfl, Later.on q hb9, rfl⟩)); go_big_quiet_on)))
    refine wpQuiet_nil ?_
    intro _ hw'
    obtain ⟨q, rfl⟩ := hw'
    go_wp2
    go_ret
    exact ⟨ret_str HRES2.out, HB1.out.trans (q.h.mono HB1.out.size)⟩
end Go.Proofs.YteoghpefilghdakGreatDoor
