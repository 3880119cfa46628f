/- The program's ExpText, whole. -/
import Derived.Test.YtdegcmagklbgoajGreatDoorEM
namespace Go.Proofs.YtdegcmagklbgoajGreatDoor
open Go.ChangeShapes Go.WideShapes Go.ChangeAt Go.RowKit
set_option linter.unusedVariables false
set_option linter.unusedSimpArgs false

def TabW (w : World) : Prop := Lib.TabIs Tryz.prog w "internal/strconv.uint64pow10" .u64 Lib.pow10Tab
theorem TabW.later {w w' : World} (h : TabW w) (hb : Below w.heap.size w w') : TabW w' := Lib.tabBelow_of_tabIs h w' hb
theorem TabW.tb {w : World} (h : TabW w) : Tb w.heap.size w := Lib.tabBelow_of_tabIs h
theorem RowOf.lt {α : Type} {w : World} {R R' : α → List Value → Prop} {size : Nat} {o : Option Addr} {xs : List α} (h : RowOf AllK w R size o xs) (hR : ∀ x cs, R x cs → R' x cs) : RowOf (LtK w.heap.size) w R' size o xs := by
  intro hne
  obtain ⟨b, off, ho, -, hlt, hc⟩ := h hne
  refine ⟨b, off, ho, hlt, hlt, fun i x hx => ?_⟩
  obtain ⟨cs, h1, h2, h3⟩ := hc i x hx
  exact ⟨cs, h1, h2, hR x cs h3⟩
theorem reads_lt (w : World) : ∀ h, (∀ e cs, (reads AllK w h).ex e cs → (reads (LtK w.heap.size) w h).ex e cs) ∧ (∀ d cs, (reads AllK w h).de d cs → (reads (LtK w.heap.size) w h).de d cs) ∧ (∀ a cs, (reads AllK w h).al a cs → (reads (LtK w.heap.size) w h).al a cs) := by
  intro h
  induction h with
  | zero => exact ⟨fun _ _ h => h, fun _ _ h => h, fun _ _ h => h⟩
  | succ h ih =>
    obtain ⟨ih1, ih2, ih3⟩ := ih
    refine ⟨fun e cs he => ?_, fun d cs hd => ?_, fun a cs ha => ?_⟩
    · obtain ⟨e0, o1, c1, o2, c2, o3, c3, e1, e2, e3, e4, e5, r1, r2, r3⟩ := he
      exact ⟨e0, o1, c1, o2, c2, o3, c3, e1, e2, e3, e4, e5, r1.lt ih1, r2.lt ih2, r3.lt ih3⟩
    · obtain ⟨d0, d1, d2, e, o1, c1, ce, o2, c2, e0, e1, e2, e3, e4, r1, e5, r2, r3⟩ := hd
      exact ⟨d0, d1, d2, e, o1, c1, ce, o2, c2, e0, e1, e2, e3, e4, r1.lt (fun _ _ h => h), e5, ih1 _ _ r2, r3.lt ih2⟩
    · obtain ⟨a0, a1, a2, a3, e, o1, c1, ce, e0, e1, e2, e3, r1, e4, r2⟩ := ha
      exact ⟨a0, a1, a2, a3, e, o1, c1, ce, e0, e1, e2, e3, r1.lt (fun _ _ h => h), e4, ih1 _ _ r2⟩
theorem ne_of_len {l : List UInt8} (h : 1 ≤ l.length) : l ≠ [] := by
  intro e
  rw [e] at h
  simp at h
theorem txt_ne {h : Nat} {x : Tr} {d : Int} {n : Nat} (hok : (okz h).ex x d = true) : (txt h).ex x n ≠ [] := by
  cases h with
  | zero => cases hok
  | succ h =>
    obtain ⟨O, hh, -⟩ := ok_of hok
    rcases ok_kinds hh with ⟨k, hs, -⟩ | ⟨k, hs, -⟩ | ⟨k, h0, h1, -⟩ | ⟨k, -, -, ⟨a, b, hl⟩, -⟩ | ⟨k, -, -, ⟨a, hl⟩, -⟩ | ⟨k, -, -, ⟨a, hl⟩, -⟩ | ⟨k, -, -, ⟨a, hl⟩, -⟩ | ⟨k, -, -, ⟨a, b, c, hl⟩, -⟩ | ⟨k, -, -, ⟨a, b, hl⟩, -⟩
    · rw [txt_k1 (.inl k)]
      exact ne_of_len (nm_size hs).2
    · rw [txt_k1 (.inr k)]
      exact ne_of_len (gr_size hs).2
    · rw [txt_k3 k]
      exact ne_of_len (dec_len (by omega)).2
    · rw [txt_k4 k hl]; simp
    · rw [txt_k5 k hl]; simp
    · rw [txt_k6 k hl]; simp
    · rw [txt_k7 k hl]; simp
    · rw [txt_k8 k hl]; simp
    · rw [txt_k9 k hl]; simp

set_option maxHeartbeats 1000000 in
set_option maxRecDepth 100000 in
theorem implExpText_any {w : World} {h : Nat} {x : Tr} {cs : List Value} {n : Int} (hr : (reads AllK w h).ex x cs) (htab : TabW w) :
    Calls Tryz.prog 20 #[.agg cs.toArray, .int .i64 n] w fun e w' => e = .returned (.string (ofL (expT h x n))) ∧ Below w.heap.size w w' := by
  obtain ⟨o1, c1, o2, c2, o3, c3, rfl⟩ := ex_form hr
  have HR := hide hr
  have HT := hide htab
  clear hr htab
  have HB0 : Hid (Below w.heap.size w (w.alloc (.cells #[.int .i64 x.k, .string x.s, .int .i64 x.n, .slice o1 x.l.length c1, .slice o2 x.ds.length c2, .slice o3 x.al.length c3] 34))) := (Below.refl _ w).alloc (Nat.le_refl _) _
  have HX0 : Hid ((w.alloc (.cells #[.int .i64 x.k, .string x.s, .int .i64 x.n, .slice o1 x.l.length c1, .slice o2 x.ds.length c2, .slice o3 x.al.length c3] 34)).heap[w.heap.size]? = some (.cells #[.int .i64 x.k, .string x.s, .int .i64 x.n, .slice o1 x.l.length c1, .slice o2 x.ds.length c2, .slice o3 x.al.length c3] 34 (0, 0))) := heap_alloc_new w _
  by_cases hn : n < 0 ∨ 60 < n
  · have hE : expT h x n = [] := by
      unfold expT
      have : inB n 0 60 = false := by unfold inB; simp; omega
      rw [this, Bool.and_false]
      rfl
    have HE := hide hE
    clear hE
    rcases (show n < 0 ∨ (¬ n < 0 ∧ 60 < n) by omega) with h1 | ⟨h1, h2⟩
    all_goals
      go_enter Tryz.func20, Tryz.ntmps20
      go_wp2
      go_ret
      exact ⟨ret_str (by rw [HE.out]; rfl), HB0.out⟩
  have h1 : ¬ n < 0 := by omega
  have h2 : ¬ 60 < n := by omega
  have HI : Hid (inB n 0 60 = true) := inB_tt (by omega) (by omega)
  obtain ⟨m, rfl⟩ : ∃ m : Nat, n = m := ⟨n.toNat, by omega⟩
  cases hb : ((okz h).ex x 1 && decide ((cnt h).ex x ≤ 200))
  · have HBO := hide hb
    clear hb
    go_enter Tryz.func20, Tryz.ntmps20
    go_wp2_with fail
    refine (implExpOk_any ((reads_later HB0.out h).1 _ _ HR.out)).mono ?_
    rintro e w1 ⟨rfl, hb⟩
    rw [HBO.out]
    have HB1 := hide (HB0.out.trans (hb.mono HB0.out.size))
    clear hb
    go_wp2
    go_ret
    exact ⟨ret_str (by unfold expT; rw [HBO.out]; rfl), HB1.out⟩
  · have HBO := hide hb
    clear hb
    have hok : (okz h).ex x 1 = true ∧ (cnt h).ex x ≤ 200 := by
      have h1 := HBO.out
      rw [Bool.and_eq_true] at h1
      exact ⟨h1.1, of_decide_eq_true h1.2⟩
    have HLEN := hide ((txt_len AllK w h).ex x _ 1 m HR.out hok.1 (by omega))
    have HNE := hide (txt_ne (n := m) hok.1)
    go_enter Tryz.func20, Tryz.ntmps20
    go_wp2_with fail
    refine (implExpOk_any ((reads_later HB0.out h).1 _ _ HR.out)).mono ?_
    rintro e w1 ⟨rfl, hb⟩
    rw [HBO.out]
    have HB1 := hide (HB0.out.trans (hb.mono HB0.out.size))
    have HX1 := hide ((hb.block w.heap.size (heap_lt HX0.out)).trans HX0.out)
    clear hb
    have HRW := hide ((reads_lt w1 h).1 _ _ ((reads_later HB1.out h).1 _ _ HR.out))
    have HA1 : Hid (Below w1.heap.size w1 (w1.alloc (.cells #[.pointer none, .slice none 0 0] 100))) := (Below.refl _ w1).alloc (Nat.le_refl _) _
    have hT1 : Hid (Tb w1.heap.size w1) := (HT.out.later HB1.out).tb
    have PG := hide (fresh_page w1)
    have z0 := (HA1.out.cell (p := ⟨w.heap.size, 0, none⟩) (heap_lt HX1.out)).trans (cell_of HX1.out 0)
    have z1 := (HA1.out.cell (p := ⟨w.heap.size, 1, none⟩) (heap_lt HX1.out)).trans (cell_of HX1.out 1)
    have z2 := (HA1.out.cell (p := ⟨w.heap.size, 2, none⟩) (heap_lt HX1.out)).trans (cell_of HX1.out 2)
    have z3 := (HA1.out.cell (p := ⟨w.heap.size, 3, none⟩) (heap_lt HX1.out)).trans (cell_of HX1.out 3)
    have z4 := (HA1.out.cell (p := ⟨w.heap.size, 4, none⟩) (heap_lt HX1.out)).trans (cell_of HX1.out 4)
    have z5 := (HA1.out.cell (p := ⟨w.heap.size, 5, none⟩) (heap_lt HX1.out)).trans (cell_of HX1.out 5)
    simp only [List.getElem?_toArray, List.getElem?_cons_succ, List.getElem?_cons_zero] at z0 z1 z2 z3 z4 z5
    go_wp2_with fail
    refine ((px_all h).1 x _ _ w1.heap.size w1.heap.size [] m 1 ((reads_later HA1.out h).1 _ _ HRW.out) hok.1 PG.out (hT1.out.on HA1.out) (by omega) hok.2 (by have := HLEN.out; simp only [List.length_nil]; omega)).mono ?_
    rintro e w2 ⟨rfl, hp2, hf2⟩
    have P2 := hide hp2
    have B2 := hide (HA1.out.trans hf2.below)
    clear hp2 hf2 z0 z1 z2 z3 z4 z5
    go_wp2_with fail
    refine (string_page w1.heap.size w1.heap.size _ w2 P2.out (by rw [List.nil_append]; exact HNE.out)).mono ?_
    rintro e w3 ⟨rfl, hf3⟩
    have B3 := hide (HB1.out.trans ((B2.out.trans hf3.below).mono HB1.out.size))
    clear hf3
    go_wp2
    go_ret
    exact ⟨ret_str (by unfold expT; rw [HBO.out, HI.out]; rfl), B3.out⟩
end Go.Proofs.YtdegcmagklbgoajGreatDoor
