/- The program's TyText. -/
import Derived.Test.YteoghpefilghdamDoorTXb
import Derived.Test.YteoghpefilghdamDoorTXc
namespace Go.Proofs.YteoghpefilghdamDoor
namespace Tx
open Go.ChangeShapes Go.WideShapes Go.ChangeAt Go.RowKit
set_option linter.unusedVariables false
set_option linter.unusedSimpArgs false

set_option maxHeartbeats 2000000 in
set_option maxRecDepth 100000 in
/-- A page on which nothing is written, read. -/
theorem string_page0 (B b : Nat) (w : World) (h : Pg B b [] w) :
    Calls Tryd.prog 13 #[.pointer (some ⟨b, 0, none⟩)] w fun e w' => e = .returned (.string ⟨#[]⟩) ∧ Below B w w' := by
  obtain ⟨p, hB, v, hbk, hown, hne⟩ : ∃ p, Lib.BuilderAtF 42 5 B b p (Lib.byteCells []) w := by
    rcases h.1 with h | h
    · exact ⟨_, h⟩
    · exact ⟨_, h⟩
  have hBw := h.2
  have hUS : ∀ (q : Option Addr) (W : World), (Builtin.unsafeString_ #[49, 3] 9 #[.pointer q, .int .i64 0]).run Tryd.prog W = .ok (.string .empty) W := fun q W => Lib.run_unsafeString_none W _ _ _ q
  have mixed : Tryd.prog.follows .mixedOrders = true := by kernel_rfl
  clear h
  rcases hown.2 with ⟨rfl, _⟩ | ⟨g, cap, cur, fz, rfl, hbg, hg, _, _, _, _, _⟩
  · have c1 : w.drew.cell? ⟨b, 1, none⟩ = some (.slice none 0 0) := by
      have hd : w.drew.heap[b]? = some (.cells #[p, .slice none 0 0] 42 (0, 0)) := hbk
      rw [Lib.cell_of_heap hd]; rfl
    have hSD : (Builtin.unsafeSliceData_ #[38] 49 #[.slice none 0 0]).run Tryd.prog w.drew = .ok (.pointer none) w.drew := rfl
    clear hown hbk
    go_enter Tryd.func13, Tryd.ntmps13
    go_wp2
    go_region_o
    all_goals (go_wp2; go_ret; exact ⟨rfl, Below.drew (Below.refl B w)⟩)
  · have hn0 : (Lib.byteCells []).length = 0 := rfl
    rw [hn0] at hbk
    by_cases hc0 : cap = 0
    · subst hc0
      have hlt : b < w.heap.size := heap_lt hbk
      have c1 : w.drew.cell? ⟨b, 1, none⟩ = some (.slice (some ⟨g, 0, none⟩) 0 0) := by
        have hd : w.drew.heap[b]? = some (.cells #[p, .slice (some ⟨g, 0, none⟩) 0 0] 42 (0, 0)) := hbk
        rw [Lib.cell_of_heap hd]; rfl
      have hSD : (Builtin.unsafeSliceData_ #[38] 49 #[.slice (some ⟨g, 0, none⟩) 0 0]).run Tryd.prog w.drew = .ok (.pointer (some ⟨w.drew.heap.size, 0, none⟩)) (w.drew.alloc (.view ⟨g, 0, none⟩ 5)) :=
        Lib.run_unsafeSliceData_zero w.drew _ _ 5 Tryd.underlying49 ⟨g, 0, none⟩ 0 (5, cur.size) (by have hg' : w.drew.heap[g]? = some (.cells cur 5 fz) := hg; simp [World.shape?, hg'])
      have c2 : (w.drew.alloc (.view ⟨g, 0, none⟩ 5)).cell? ⟨b, 1, none⟩ = some (.slice (some ⟨g, 0, none⟩) 0 0) := by
        have hd : (w.drew.alloc (.view ⟨g, 0, none⟩ 5)).heap[b]? = _ := (Lib.alloc_old w.drew _ b hlt).trans hbk
        rw [Lib.cell_of_heap hd]; rfl
      have c3 : (w.alloc (.view ⟨g, 0, none⟩ 5)).drew.cell? ⟨b, 1, none⟩ = some (.slice (some ⟨g, 0, none⟩) 0 0) := c2
      have c0 : w.cell? ⟨b, 1, none⟩ = some (.slice (some ⟨g, 0, none⟩) 0 0) := c1
      clear hown hbk hg
      go_enter Tryd.func13, Tryd.ntmps13
      go_wp2
      go_region_o
      all_goals (go_wp2; go_ret; exact ⟨rfl, (Below.drew (Below.refl B w)).alloc hBw _⟩)
    · have c1 : w.drew.cell? ⟨b, 1, none⟩ = some (.slice (some ⟨g, 0, none⟩) 0 cap) := by
        have hd : w.drew.heap[b]? = some (.cells #[p, .slice (some ⟨g, 0, none⟩) 0 cap] 42 (0, 0)) := hbk
        rw [Lib.cell_of_heap hd]; rfl
      have hSD : (Builtin.unsafeSliceData_ #[38] 49 #[.slice (some ⟨g, 0, none⟩) 0 cap]).run Tryd.prog w.drew = .ok (.pointer (some ⟨g, 0, none⟩)) w.drew :=
        Lib.run_unsafeSliceData_row _ _ _ _ _ _ hc0
      clear hown hbk hg hc0
      go_enter Tryd.func13, Tryd.ntmps13
      go_wp2
      go_region_o
      all_goals (go_wp2; go_ret; exact ⟨rfl, Below.drew (Below.refl B w)⟩)
/-- The tables of the standard library. -/
def TabW (w : World) : Prop := Lib.TabIs Tryd.prog w "internal/strconv.uint64pow10" .u64 Lib.pow10Tab
theorem TabW.later {w w' : World} (h : TabW w) (hb : Below w.heap.size w w') : TabW w' := Lib.tabBelow_of_tabIs h w' hb
theorem TabW.tb {w : World} (h : TabW w) : Tb w.heap.size w := Lib.tabBelow_of_tabIs h
theorem ty_lt (w : World) : ∀ h x cs, tyR AllK w h x cs → tyR (LtK w.heap.size) w h x cs := by
  intro h
  induction h with
  | zero => exact fun _ _ h => h
  | succ h ih =>
    rintro x cs ⟨e0, e1, e2, o, c, e3, e4, e5, hm⟩
    refine ⟨e0, e1, e2, o, c, e3, e4, e5, fun hne => ?_⟩
    obtain ⟨b, off, e, hk, hl, hc⟩ := hm hne
    refine ⟨b, off, e, hl, hl, fun i x hx => ?_⟩
    obtain ⟨cs, h1, h2, h3⟩ := hc i x hx
    exact ⟨cs, h1, h2, ih x cs h3⟩
set_option maxHeartbeats 1000000 in
set_option maxRecDepth 100000 in
theorem implTyTx_any {w : World} {h : Nat} {x : Tr} {cs : List Value} (hr : tyR AllK w h x cs) (hg : rg h x) (hw : wty h x ≤ 1048576) (htab : TabW w) :
    Calls Tryd.prog 7 #[.agg cs.toArray] w fun e w' => e = .returned (.string (tyTx h x)) ∧ Below w.heap.size w w' := by
  obtain ⟨o, c, rfl⟩ := ty_form hr
  have HT := hide htab
  have HG := hide hg
  have HB0 : Hid (Below w.heap.size w (w.alloc (.cells #[.int .i64 x.k, .string x.s, .int .i64 x.n, .slice o x.l.length c] 29))) := (Below.refl _ w).alloc (Nat.le_refl _) _
  have HX0 : Hid ((w.alloc (.cells #[.int .i64 x.k, .string x.s, .int .i64 x.n, .slice o x.l.length c] 29)).heap[w.heap.size]? = some (.cells #[.int .i64 x.k, .string x.s, .int .i64 x.n, .slice o x.l.length c] 29 (0, 0))) := heap_alloc_new w _
  generalize hV : w.alloc (.cells #[.int .i64 x.k, .string x.s, .int .i64 x.n, .slice o x.l.length c] 29) = V at HB0 HX0
  have HRW := hide (ty_lt V h _ _ (tyR_later HB0.out h _ _ hr))
  have HA1 : Hid (Below V.heap.size V (V.alloc (.cells #[.pointer none, .slice none 0 0] 42))) := (Below.refl _ V).alloc (Nat.le_refl _) _
  have hT1 : Hid (Tb V.heap.size V) := (HT.out.later HB0.out).tb
  have PG := hide (fresh_page V)
  have HLEN := hide (tw_len h x 1 hg)
  have HEQ := hide (tm_tw h x 1)
  have HRL := hide (tyR_later HA1.out h _ _ HRW.out)
  have HB1 := hide (HB0.out.trans (HA1.out.mono HB0.out.size))
  clear hr hg htab
  have z0 := (HA1.out.cell (p := ⟨w.heap.size, 0, none⟩) (heap_lt HX0.out)).trans (cell_of HX0.out 0)
  have z1 := (HA1.out.cell (p := ⟨w.heap.size, 1, none⟩) (heap_lt HX0.out)).trans (cell_of HX0.out 1)
  have z2 := (HA1.out.cell (p := ⟨w.heap.size, 2, none⟩) (heap_lt HX0.out)).trans (cell_of HX0.out 2)
  have z3 := (HA1.out.cell (p := ⟨w.heap.size, 3, none⟩) (heap_lt HX0.out)).trans (cell_of HX0.out 3)
  simp only [List.getElem?_toArray, List.getElem?_cons_succ, List.getElem?_cons_zero] at z0 z1 z2 z3
  go_enter Tryd.func7, Tryd.ntmps7
  go_wp2_with fail
  refine (pT_all h x _ _ V.heap.size V.heap.size [] 1 (HRL.out) HG.out PG.out (hT1.out.on HA1.out) (by omega) (by omega) (by have := HLEN.out; simp only [List.length_nil]; omega)).mono ?_
  rintro e w2 ⟨rfl, hp2, hf2⟩
  have P2 := hide hp2
  have B2 := hide (HB1.out.trans (hf2.below.mono HB0.out.size))
  clear hp2 hf2 z0 z1 z2 z3
  have he : tyTx h x = if (tw h x 1).2 = true then ofL (tw h x 1).1 else ⟨#[]⟩ := by
    unfold tyTx
    have h1 := HEQ.out
    rw [h1.1]
    by_cases hk : (tw h x 1).2 = true
    · rw [if_pos hk, if_pos hk, h1.2 (h1.1.trans hk)]
    · rw [if_neg hk, if_neg hk]
  have HE := hide he
  clear he
  rw [List.nil_append] at P2
  generalize tw h x 1 = T at HE P2
  obtain ⟨t, k⟩ := T
  cases k
  · go_wp2
    go_ret
    exact ⟨ret_str (by rw [HE.out]; rfl), B2.out⟩
  · by_cases h0 : t = []
    · subst h0
      go_wp2_with fail
      refine (string_page0 V.heap.size V.heap.size w2 P2.out).mono ?_
      rintro e w3 ⟨rfl, hf3⟩
      have B3 := hide (B2.out.trans (hf3.mono HB0.out.size))
      clear hf3
      go_wp2
      go_ret
      exact ⟨ret_str (by rw [HE.out]; rfl), B3.out⟩
    · have H0 := hide h0
      clear h0
      go_wp2_with fail
      refine (string_page V.heap.size V.heap.size _ w2 P2.out H0.out).mono ?_
      rintro e w3 ⟨rfl, hf3⟩
      have B3 := hide (B2.out.trans (hf3.below.mono HB0.out.size))
      clear hf3
      go_wp2
      go_ret
      exact ⟨ret_str (by rw [HE.out]; rfl), B3.out⟩
/-- An argument opened, with its numbers in range. -/
theorem open_tyN {H : Type} {enc : TypeId × Value → H} {w : World} {base : Nat} {spare : Nat → Bool} {held : Bool} : ∀ fuel n, n ≤ fuel → ∀ cs (x : DataW H × List MemPlace), DataW.trod enc Tryd.prog w base spare held n 24 cs = some x → ∃ y, tyR (fun _ => True) w fuel y cs ∧ rg fuel y := by
  intro fuel
  induction fuel with
  | zero =>
    intro n hn cs x h
    have : n = 0 := by omega
    subst this
    simp [DataW.trod] at h
  | succ fuel ih =>
    intro n hn cs x h
    obtain ⟨xs, n', hn', -, hlen, hxl, hf⟩ := DataW.trod_struct Tryd.underlying24 h
    rw [cells_ty] at hlen
    obtain ⟨v0, v1, v2, v3, rfl⟩ := four_of hlen
    have hx : ∀ i, i < 4 → ∃ y, xs[i]? = some y := fun i hi => ⟨xs[i]'(by rw [hxl]; exact hi), List.getElem?_eq_getElem _⟩
    obtain ⟨y0, e0⟩ := hx 0 (by omega)
    obtain ⟨y1, e1⟩ := hx 1 (by omega)
    obtain ⟨y2, e2⟩ := hx 2 (by omega)
    obtain ⟨y3, e3⟩ := hx 3 (by omega)
    have k0 : DataW.trod enc Tryd.prog w base spare held n' 3 ([v0, v1, v2, v3].take (Tryd.prog.cellsOf 3)) = some y0 := by have g := hf 0 _ rfl; rw [e0] at g; exact g
    have k1 : DataW.trod enc Tryd.prog w base spare held n' 9 ([v1, v2, v3].take (Tryd.prog.cellsOf 9)) = some y1 := by have g := hf 1 _ rfl; rw [e1] at g; exact g
    have k2 : DataW.trod enc Tryd.prog w base spare held n' 3 ([v2, v3].take (Tryd.prog.cellsOf 3)) = some y2 := by have g := hf 2 _ rfl; rw [e2] at g; exact g
    have k3 : DataW.trod enc Tryd.prog w base spare held n' 22 ([v3].take (Tryd.prog.cellsOf 22)) = some y3 := by have g := hf 3 _ rfl; rw [e3] at g; exact g
    rw [cells_int] at k0 k2
    rw [cells_string] at k1
    rw [cells_tys] at k3
    obtain ⟨z0, h0, -, -⟩ := DataW.trod_int Tryd.underlying3 k0
    obtain ⟨s1, h1, -, hs⟩ := DataW.trod_string Tryd.underlying9 k1
    obtain ⟨z2, h2, -, hz⟩ := DataW.trod_int Tryd.underlying3 k2
    obtain ⟨o3, l3, c3, h3, m3, r3⟩ := open_row (R := fun y cs => tyR (fun _ => True) w fuel y cs ∧ rg fuel y) Tryd.underlying22 cells_ty (by decide) (fun m hm => ih m (by omega)) k3
    simp at h0 h1 h2 h3
    subst h0 h1 h2 h3
    refine ⟨⟨z0, s1, z2, [], l3, [], []⟩, ⟨rfl, rfl, rfl, o3, c3, rfl, hs, m3, fun hne => ?_⟩, ?_, fun y hy => ?_⟩
    · obtain ⟨b, off, e, hk, hl, hc⟩ := r3 hne
      refine ⟨b, off, e, hk, hl, fun i x hx => ?_⟩
      obtain ⟨cs, g1, g2, g3⟩ := hc i x hx
      exact ⟨cs, g1, g2, g3.1⟩
    · have hz2 : (decide (IntKind.i64.min ≤ z2) && decide (z2 ≤ IntKind.i64.max)) = true := hz
      rw [Bool.and_eq_true] at hz2
      exact of_decide_eq_true hz2.2
    · obtain ⟨i, hi⟩ := List.mem_iff_getElem?.1 hy
      obtain ⟨_, _, _, _, _, hc⟩ := r3 (fun e => by rw [e] at hy; cases hy)
      obtain ⟨cs, _, _, g3⟩ := hc i y hi
      exact g3.2
end Tx
end Go.Proofs.YteoghpefilghdamDoor
