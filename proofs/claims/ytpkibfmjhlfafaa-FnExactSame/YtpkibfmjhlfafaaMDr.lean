/- A pair of Ress put to those that are to be held against each other (made by genMD.py). -/
import Derived.Test.YtpkibfmjhlfafaaMC
import Derived.Deep.RegionLaw
import Derived.Deep.QuietTactic
import Derived.BigQuiet
import Derived.WalkSmall
import Derived.Deep.DeepCutAuto
import Derived.Deep.CutBlock
namespace Go.Proofs.Ytpkibfmjhlfafaa.PR
open Go.RowKit Go.Proofs.Ytpkibfmjhlfafaa

theorem size_it : (Try.prog.info? 29).map (·.size) = some 4 := by kernel_rfl
theorem info_it : ∃ j, Try.prog.info? 29 = some j ∧ j.size = 4 := by
  have h := size_it
  cases hi : Try.prog.info? 29 with
  | none => rw [hi] at h; cases h
  | some j => rw [hi] at h; exact ⟨j, rfl, by simpa using h⟩
theorem pairIt : PairTy Try.prog 47 := by
  obtain ⟨j, hj, hs⟩ := info_it
  exact ⟨⟨_, _, _, _, j, Try.underlying47, by decide, by decide, rfl, rfl, rfl, rfl, Try.underlying41, hj, by omega⟩, by kernel_rfl⟩
theorem eql_ptr {w : World} {x y : Addr} (hx : PlainAt w x) (hy : PlainAt w y) : (binOp .eql 41 (.pointer (some x)) (.pointer (some y))).run Try.prog w = .ok (.bool (x == y)) w := by
  obtain ⟨j, hj, hs⟩ := info_it
  obtain ⟨ca, ta, hx⟩ := hx
  obtain ⟨cb, tb, hy⟩ := hy
  by_cases e : x = y
  · subst e
    rw [run_eql_ptr_same w x Try.underlying41 hj]
    simp
  · rw [run_eql_ptr_other w Try.underlying41 hj (by omega) e hx hy]
    simp [e]
theorem eql_nil (w : World) (m : Nat) : (binOp .eql 37 (.map (some m)) (.map none)).run Try.prog w = .ok (.bool false) w := by kernel_rfl
theorem eql_nils (w : World) : (binOp .eql 37 (.map none) (.map none)).run Try.prog w = .ok (.bool true) w := by kernel_rfl
theorem pair_info : (Try.prog.info? 47).map (fun i => (i.zero, i.size, i.bytes)) = some (some (.agg #[.pointer none, .pointer none]), 2, 16) := by kernel_rfl
/-- What a look-up answers, of the whole. -/
theorem look_it {w W : World} {K : Nat → Prop} {g : Nat} {vl : Value} {mo : Option Nat} {ls ks : List (Addr × Addr)} (h : PairsMem 47 w K g vl mo ls ks) (x y : Addr) (px : PlainAt w x) (py : PlainAt w y) (hW : Below w.heap.size w W) :
    (Instr.lookup 37 (.map mo) (keyV (x, y)) true).run Try.prog W = .ok (.tuple #[.agg #[], .bool (hasK ks (x, y))]) W := by
  have h2 := h.later hW
  rcases h2.map with ⟨rfl, rfl⟩ | ⟨m2, es, cl, rfl, hm, hk⟩
  · exact look_none Try.underlying37 pairIt zero_unit W (x, y)
  · exact look_some Try.underlying37 pairIt zero_unit W (x, y) m2 es cl ks hm hk (px.later hW) (py.later hW) (fun l hl => ⟨(h2.keys l hl).1.2, (h2.keys l hl).2.2⟩)

set_option maxHeartbeats 1000000 in
set_option maxRecDepth 100000 in
theorem put_skip (x y : Addr) (mo : Option Nat) (hb o : Nat) (w : World) (again : Bool) (hc : w.cell? ⟨hb, o + 1, none⟩ = some (.map mo)) (hhb : hb < w.heap.size) (hpx : PlainAt w x) (hpy : PlainAt w y)
    (hlook : ∀ W, Below w.heap.size w W → (Instr.lookup 37 (.map mo) (keyV (x, y)) true).run Try.prog W = .ok (.tuple #[.agg #[], .bool again]) W)
    (hsk : (x == y || again) = true) :
    Calls Try.prog 14 #[.pointer (some ⟨hb, o, none⟩), .pointer (some x), .pointer (some y)] w fun e w' => e = .returned (.tuple #[]) ∧ Below w.heap.size w w' := by
  have hkv : keyV (x, y) = .agg #[.pointer (some x), .pointer (some y)] := rfl
  have HB0 : Hid (Below w.heap.size w (w.alloc (.cells #[.pointer (some x), .pointer (some y)] 47))) := (Below.refl _ w).alloc (Nat.le_refl _) _
  have HB2 : Hid (Below w.heap.size w ((w.alloc (.cells #[.pointer (some x), .pointer (some y)] 47)).alloc (.cells #[] 48)).drew) := (HB0.out.alloc (by simp) _).drew
  have hl1 := hlook _ HB0.out.drew
  have hl2 := hlook _ HB2.out
  rw [hkv] at hl1 hl2
  have hq := eql_ptr (hpx.later HB2.out) (hpy.later HB2.out)
  clear hlook hpx hpy hkv
  cases hxy : (x == y)
  · rw [hxy] at hq
    have ha : again = true := by rw [hxy] at hsk; simpa using hsk
    subst ha
    clear hsk hxy
    go_enter Try.func14, Try.ntmps14
    go_wp2
    go_region
    all_goals
      go_wp2
      exact bodyPost_ret (results_none rfl _ _ _) rfl ⟨rfl, HB2.out⟩
  · rw [hxy] at hq
    clear hsk hxy
    cases again
    all_goals
      go_enter Try.func14, Try.ntmps14
      go_wp2
      go_region
      all_goals
        go_wp2
        exact bodyPost_ret (results_none rfl _ _ _) rfl ⟨rfl, HB2.out⟩

set_option maxHeartbeats 4000000 in
set_option maxRecDepth 100000 in
theorem put_some (x y : Addr) (m g o : Nat) (w : World) (c : Array Value) (e : TypeId) (K : Nat → Prop) (vl : Value) (ls ks : List (Addr × Addr))
    (hg : w.heap[g]? = some (.cells c e (0, 0))) (hc0 : c[o]? = some vl) (hc1 : c[o + 1]? = some (.map (some m)))
    (h : PairsMem 47 w K g vl (some m) ls ks) (kx : K x.block) (ky : K y.block) (px : PlainAt w x) (py : PlainAt w y) (hxy : (x == y) = false) (hno : hasK ks (x, y) = false) (hn : ls.length ≤ 10000000) :
    Calls Try.prog 14 #[.pointer (some ⟨g, o, none⟩), .pointer (some x), .pointer (some y)] w fun e' w' => e' = .returned (.tuple #[]) ∧ PutDone 47 w w' K g o c e (x, y) ls ks := by
  obtain ⟨i0, hi, hz0, hz1, hz2⟩ := info_parts pair_info
  have hkv : keyV (x, y) = .agg #[.pointer (some x), .pointer (some y)] := rfl
  have hgw := h.gw
  have HB0 : Hid (Below w.heap.size w (w.alloc (.cells #[.pointer (some x), .pointer (some y)] 47))) := (Below.refl _ w).alloc (Nat.le_refl _) _
  have HB2 : Hid (Below w.heap.size w ((w.alloc (.cells #[.pointer (some x), .pointer (some y)] 47)).alloc (.cells #[] 48)).drew) := (HB0.out.alloc (by simp) _).drew
  have HX2 : Hid (((w.alloc (.cells #[.pointer (some x), .pointer (some y)] 47)).alloc (.cells #[] 48)).drew.heap[w.heap.size]? = some (pairObj 47 (x, y))) := (Below.heap_alloc _ _ _ (by simp)).trans (heap_alloc_new w _)
  have hl1 := look_it h x y px py HB0.out.drew
  have hl2 := look_it h x y px py HB2.out
  rw [hkv, hno] at hl1 hl2
  have hq := eql_ptr (px.later HB2.out) (py.later HB2.out)
  rw [hxy] at hq
  have he := eql_nil ((w.alloc (.cells #[.pointer (some x), .pointer (some y)] 47)).alloc (.cells #[] 48)).drew m
  have hc : w.cell? ⟨g, o + 1, none⟩ = some (.map (some m)) := (cell_of hg (o + 1)).trans hc1
  have hfz := frozen_of hg (o + 1)
  have HM2 : Hid (PairsMem 47 ((w.alloc (.cells #[.pointer (some x), .pointer (some y)] 47)).alloc (.cells #[] 48)).drew (fun k => K k ∨ k = w.heap.size) g vl (some m) ls ks) := by
    refine (h.later HB2.out).more ?_ ?_ ?_ ?_ fun k hk => Or.inl hk
    · rintro k (hk | rfl)
      · exact (h.later HB2.out).kw k hk
      · exact heap_lt HX2.out
    · rintro (hk | hk)
      · exact h.kg hk
      · omega
    · rintro k hk (h3 | h3)
      · exact h.kr k hk h3
      · have := (owns_lt h.row k hk).1
        omega
    · rintro k hk (h3 | h3)
      · exact h.km k hk h3
      · have := h.mlt k hk
        omega
  have HG2 : Hid (((w.alloc (.cells #[.pointer (some x), .pointer (some y)] 47)).alloc (.cells #[] 48)).drew.heap[g]? = some (.cells c e (0, 0))) := (HB2.out.block g hgw).trans hg
  have HK2 : Hid (Keeps K w ((w.alloc (.cells #[.pointer (some x), .pointer (some y)] 47)).alloc (.cells #[] 48)).drew) := keeps_of HB2.out h.kw
  have HP := hide (And.intro (px.later HB2.out) (py.later HB2.out))
  have HKK := hide (And.intro kx ky)
  have HKS : Hid (∀ l ∈ ks ++ [(x, y)], K l.1.block ∧ K l.2.block) := by
    intro l hl
    rw [List.mem_append] at hl
    rcases hl with hl | hl
    · exact ⟨(h.keys l hl).1.1, (h.keys l hl).2.1⟩
    · simp at hl
      subst hl
      exact ⟨kx, ky⟩
  have HNK : Hid (¬ K g) := h.kg
  have HNO := hide hno
  have HC := hide (And.intro hc0 hc1)
  clear px py kx ky h hno hg hc0 hc1 hkv hxy
  go_enter Try.func14, Try.ntmps14
  go_wp2
  go_region
  all_goals
    go_upto_region 5 with fail
    clear hl1 hl2 hq he HB0 HB2
    generalize ((w.alloc (.cells #[.pointer (some x), .pointer (some y)] 47)).alloc (.cells #[] 48)).drew = wC at HX2 HM2 HG2 HK2 HP ⊢
    have HXn := hide HX2.out
    have HMn := hide HM2.out
    have HGn := hide HG2.out
    have HKn := hide HK2.out
    have HPn := hide HP.out
    have HCn : Hid (c[o]? = some vl ∧ c[o + 1]? = some (.map (some m)) ∧ ∀ j, j ≠ o + 1 → c[j]? = c[j]?) := ⟨HC.out.1, HC.out.2, fun _ _ => rfl⟩
    clear HX2 HM2 HG2 HK2 HP
    clear hc hfz
    have hbd : Below wC.heap.size wC wC.drew := (Below.refl _ wC).drew
    obtain ⟨w5, hr5, hm5, hk5, hg5, -⟩ := (HMn.out.later hbd).update Try.underlying37 pairIt (x, y) (HPn.out.1.later hbd) (HPn.out.2.later hbd) (Or.inl HKK.out.1) (Or.inl HKK.out.2) HNO.out
    have hx5 : w5.heap[w.heap.size]? = some (pairObj 47 (x, y)) := (hk5.block _ (Or.inr rfl)).trans HXn.out
    have HG5 : Hid (w5.heap[g]? = some (.cells c e (0, 0))) := hg5.trans HGn.out
    have HK5 := hide (HKn.out.trans ((keeps_of hbd (HMn.out.kw)).trans hk5 |>.mono fun k hk => Or.inl hk))
    have c1 : wC.cell? ⟨g, o + 1, none⟩ = some (.map (some m)) := (cell_of HGn.out (o + 1)).trans HCn.out.2.1
    have c2 : wC.cell? ⟨w.heap.size, 0, none⟩ = some (.pointer (some x)) := cell_of HXn.out 0
    have c3 : wC.cell? ⟨w.heap.size, 1, none⟩ = some (.pointer (some y)) := cell_of HXn.out 1
    have hgB : g < wC.heap.size := HMn.out.gw
    have hlB : w.heap.size < wC.heap.size := heap_lt HXn.out
    rw [show keyV (x, y) = .agg #[.pointer (some x), .pointer (some y)] from rfl] at hr5
    have HM5 := hide hm5
    have HX5 := hide hx5
    clear hbd hm5 hk5 hx5 hg5 HMn HXn HKn HPn HNO
    go_region
    all_goals
      go_upto_region 6 with fail
      clear hr5 c1 c2 c3 hgB hlB HGn
      obtain ⟨o', n', cap', w6, hr6, hm6, hk6, hg6⟩ := HM5.out.append Try.underlying36 hi hz0 hz1 hz2 rfl (x, y) hn
      have hg6 : w6.heap[g]? = some (.cells c e (0, 0)) := hg6.trans HG5.out
      obtain ⟨o0, n0, rfl⟩ := owns_form HM5.out.row
      have d0 : w5.cell? ⟨g, o, none⟩ = some (.slice o0 ls.length n0) := (cell_of HG5.out o).trans HCn.out.1
      have d2 : w5.cell? ⟨w.heap.size, 0, none⟩ = some (.pointer (some x)) := cell_of HX5.out 0
      have d3 : w5.cell? ⟨w.heap.size, 1, none⟩ = some (.pointer (some y)) := cell_of HX5.out 1
      have e0 : w6.cell? ⟨g, o, none⟩ = some (.slice o0 ls.length n0) := (cell_of hg6 o).trans HCn.out.1
      have f0 := frozen_of hg6 o
      have hg5w : g < w5.heap.size := HM5.out.gw
      have hl5w : w.heap.size < w5.heap.size := heap_lt HX5.out
      have HR := hide hr6
      have HM6 := hide hm6
      have HK6 := hide (HK5.out.trans (hk6.mono fun k hk => Or.inl hk))
      have HG6 := hide hg6
      clear hr6 hm6 hk6 hg6 HM5 HX5 HG5 HK5
      go_region_law (refine step_append_run3 rfl (.tmp 46) (.tmp 48) 36 rfl (.slice o0 ls.length n0) (.slice (some ⟨w5.heap.size, 0, none⟩) 1 1) (.slice o' n' cap') w6 (by simp [Act.eval]) (by simp [Act.eval]) HR.out ?_)
      all_goals
        go_end0
        refine ⟨rfl, c.set! o (.slice o' n' cap'), .slice o' n' cap', m, heap_set_same _ HG6.out, ?_, ?_, ?_, (HM6.out.set o (.slice o' n' cap')).less (fun k hk => Or.inl hk) HKS.out, HK6.out.trans (keeps_set _ _ _ _ HNK.out)⟩
        · have := (Array.getElem?_eq_some_iff.1 HCn.out.1).1
          simp [this]
        · simp [HCn.out.2.1]
        · intro j h1 h2
          rw [← HCn.out.2.2 j h2]
          simp [Ne.symm h1]

set_option maxHeartbeats 4000000 in
set_option maxRecDepth 100000 in
theorem put_none (x y : Addr) (g o : Nat) (w : World) (c : Array Value) (e : TypeId) (K : Nat → Prop) (vl : Value) (ls : List (Addr × Addr))
    (hg : w.heap[g]? = some (.cells c e (0, 0))) (hc0 : c[o]? = some vl) (hc1 : c[o + 1]? = some (.map none))
    (h : PairsMem 47 w K g vl none ls []) (kx : K x.block) (ky : K y.block) (px : PlainAt w x) (py : PlainAt w y) (hxy : (x == y) = false) (hno : hasK [] (x, y) = false) (hn : ls.length ≤ 10000000) :
    Calls Try.prog 14 #[.pointer (some ⟨g, o, none⟩), .pointer (some x), .pointer (some y)] w fun e' w' => e' = .returned (.tuple #[]) ∧ PutDone 47 w w' K g o c e (x, y) ls [] := by
  obtain ⟨i0, hi, hz0, hz1, hz2⟩ := info_parts pair_info
  have hkv : keyV (x, y) = .agg #[.pointer (some x), .pointer (some y)] := rfl
  have hgw := h.gw
  have HB0 : Hid (Below w.heap.size w (w.alloc (.cells #[.pointer (some x), .pointer (some y)] 47))) := (Below.refl _ w).alloc (Nat.le_refl _) _
  have HB2 : Hid (Below w.heap.size w ((w.alloc (.cells #[.pointer (some x), .pointer (some y)] 47)).alloc (.cells #[] 48)).drew) := (HB0.out.alloc (by simp) _).drew
  have HX2 : Hid (((w.alloc (.cells #[.pointer (some x), .pointer (some y)] 47)).alloc (.cells #[] 48)).drew.heap[w.heap.size]? = some (pairObj 47 (x, y))) := (Below.heap_alloc _ _ _ (by simp)).trans (heap_alloc_new w _)
  have hl1 := look_it h x y px py HB0.out.drew
  have hl2 := look_it h x y px py HB2.out
  rw [hkv, hno] at hl1 hl2
  have hq := eql_ptr (px.later HB2.out) (py.later HB2.out)
  rw [hxy] at hq
  have he := eql_nils ((w.alloc (.cells #[.pointer (some x), .pointer (some y)] 47)).alloc (.cells #[] 48)).drew
  have hc : w.cell? ⟨g, o + 1, none⟩ = some (.map none) := (cell_of hg (o + 1)).trans hc1
  have hfz := frozen_of hg (o + 1)
  have HM2 : Hid (PairsMem 47 ((w.alloc (.cells #[.pointer (some x), .pointer (some y)] 47)).alloc (.cells #[] 48)).drew (fun k => K k ∨ k = w.heap.size) g vl none ls []) := by
    refine (h.later HB2.out).more ?_ ?_ ?_ ?_ fun k hk => Or.inl hk
    · rintro k (hk | rfl)
      · exact (h.later HB2.out).kw k hk
      · exact heap_lt HX2.out
    · rintro (hk | hk)
      · exact h.kg hk
      · omega
    · rintro k hk (h3 | h3)
      · exact h.kr k hk h3
      · have := (owns_lt h.row k hk).1
        omega
    · rintro k hk (h3 | h3)
      · exact h.km k hk h3
      · have := h.mlt k hk
        omega
  have HG2 : Hid (((w.alloc (.cells #[.pointer (some x), .pointer (some y)] 47)).alloc (.cells #[] 48)).drew.heap[g]? = some (.cells c e (0, 0))) := (HB2.out.block g hgw).trans hg
  have HK2 : Hid (Keeps K w ((w.alloc (.cells #[.pointer (some x), .pointer (some y)] 47)).alloc (.cells #[] 48)).drew) := keeps_of HB2.out h.kw
  have HP := hide (And.intro (px.later HB2.out) (py.later HB2.out))
  have HKK := hide (And.intro kx ky)
  have HKS : Hid (∀ l ∈ [] ++ [(x, y)], K l.1.block ∧ K l.2.block) := by
    intro l hl
    rw [List.mem_append] at hl
    rcases hl with hl | hl
    · exact ⟨(h.keys l hl).1.1, (h.keys l hl).2.1⟩
    · simp at hl
      subst hl
      exact ⟨kx, ky⟩
  have HNK : Hid (¬ K g) := h.kg
  have HNO := hide hno
  have HC := hide (And.intro hc0 hc1)
  clear px py kx ky h hno hg hc0 hc1 hkv hxy
  go_enter Try.func14, Try.ntmps14
  go_wp2
  go_region
  all_goals
    go_upto_region 4 with fail
    clear hl1 hl2 hq he HB0 HB2
    generalize ((w.alloc (.cells #[.pointer (some x), .pointer (some y)] 47)).alloc (.cells #[] 48)).drew = wB at HX2 HM2 HG2 HK2 HP ⊢
    have hgB : g < wB.heap.size := HM2.out.gw
    have c1 : wB.cell? ⟨g, o + 1, none⟩ = some (.map none) := (cell_of HG2.out (o + 1)).trans HC.out.2
    have cf := frozen_of HG2.out (o + 1)
    have hbm : Below wB.heap.size wB (wB.alloc (.map #[] 0)) := (Below.refl _ wB).alloc (Nat.le_refl _) _
    have HXn : Hid (((wB.alloc (.map #[] 0)).setCell ⟨g, o + 1, none⟩ (.map (some wB.heap.size))).heap[w.heap.size]? = some (pairObj 47 (x, y))) := (heap_set_other _ (by omega)).trans ((hbm.block _ (heap_lt HX2.out)).trans HX2.out)
    have HMn : Hid (PairsMem 47 ((wB.alloc (.map #[] 0)).setCell ⟨g, o + 1, none⟩ (.map (some wB.heap.size))) (fun k => K k ∨ k = w.heap.size) g vl (some wB.heap.size) ls []) := HM2.out.fresh.set _ _
    have HGn : Hid (((wB.alloc (.map #[] 0)).setCell ⟨g, o + 1, none⟩ (.map (some wB.heap.size))).heap[g]? = some (.cells (c.set! (o + 1) (.map (some wB.heap.size))) e (0, 0))) := heap_set_same _ ((hbm.block g hgB).trans HG2.out)
    have HKn : Hid (Keeps K w ((wB.alloc (.map #[] 0)).setCell ⟨g, o + 1, none⟩ (.map (some wB.heap.size)))) := HK2.out.trans ((keeps_of hbm fun k hk => HM2.out.kw k (Or.inl hk)).trans (keeps_set _ _ _ _ HNK.out))
    have HPn : Hid (PlainAt ((wB.alloc (.map #[] 0)).setCell ⟨g, o + 1, none⟩ (.map (some wB.heap.size))) x ∧ PlainAt ((wB.alloc (.map #[] 0)).setCell ⟨g, o + 1, none⟩ (.map (some wB.heap.size))) y) :=
      ⟨(HP.out.1.later hbm).block (heap_set_other _ fun e => HNK.out (e ▸ HKK.out.1)), (HP.out.2.later hbm).block (heap_set_other _ fun e => HNK.out (e ▸ HKK.out.2))⟩
    have HCn : Hid ((c.set! (o + 1) (.map (some wB.heap.size)))[o]? = some vl ∧ (c.set! (o + 1) (.map (some wB.heap.size)))[o + 1]? = some (.map (some wB.heap.size)) ∧ ∀ j, j ≠ o + 1 → (c.set! (o + 1) (.map (some wB.heap.size)))[j]? = c[j]?) := by
      have h1 := (Array.getElem?_eq_some_iff.1 HC.out.2).1
      refine ⟨?_, ?_, fun j hj => ?_⟩
      · simp [HC.out.1]
      · simp [h1]
      · simp [Ne.symm hj]
    have hmk : (Instr.makeMap 37 none).run Try.prog wB = .ok (.map (some wB.heap.size)) (wB.alloc (.map #[] 0)) := rfl
    clear hbm HX2 HM2 HG2 HK2 HP
    go_upto_region 5 with fail
    clear hmk
    rw [← World.setCell_alloc_past (w := wB) (.map #[] 0) g (o + 1) (.map (some wB.heap.size)) hgB]
    generalize (wB.alloc (.map #[] 0)).setCell ⟨g, o + 1, none⟩ (.map (some wB.heap.size)) = wC at HXn HMn HGn HKn HPn ⊢
    generalize c.set! (o + 1) (.map (some wB.heap.size)) = d at HGn HCn ⊢
    generalize wB.heap.size = m at HMn HCn ⊢
    clear c1 cf hgB wB
    clear hc hfz
    have hbd : Below wC.heap.size wC wC.drew := (Below.refl _ wC).drew
    obtain ⟨w5, hr5, hm5, hk5, hg5, -⟩ := (HMn.out.later hbd).update Try.underlying37 pairIt (x, y) (HPn.out.1.later hbd) (HPn.out.2.later hbd) (Or.inl HKK.out.1) (Or.inl HKK.out.2) HNO.out
    have hx5 : w5.heap[w.heap.size]? = some (pairObj 47 (x, y)) := (hk5.block _ (Or.inr rfl)).trans HXn.out
    have HG5 : Hid (w5.heap[g]? = some (.cells d e (0, 0))) := hg5.trans HGn.out
    have HK5 := hide (HKn.out.trans ((keeps_of hbd (HMn.out.kw)).trans hk5 |>.mono fun k hk => Or.inl hk))
    have c1 : wC.cell? ⟨g, o + 1, none⟩ = some (.map (some m)) := (cell_of HGn.out (o + 1)).trans HCn.out.2.1
    have c2 : wC.cell? ⟨w.heap.size, 0, none⟩ = some (.pointer (some x)) := cell_of HXn.out 0
    have c3 : wC.cell? ⟨w.heap.size, 1, none⟩ = some (.pointer (some y)) := cell_of HXn.out 1
    have hgB : g < wC.heap.size := HMn.out.gw
    have hlB : w.heap.size < wC.heap.size := heap_lt HXn.out
    rw [show keyV (x, y) = .agg #[.pointer (some x), .pointer (some y)] from rfl] at hr5
    have HM5 := hide hm5
    have HX5 := hide hx5
    clear hbd hm5 hk5 hx5 hg5 HMn HXn HKn HPn HNO
    go_region
    all_goals
      go_upto_region 6 with fail
      clear hr5 c1 c2 c3 hgB hlB HGn
      obtain ⟨o', n', cap', w6, hr6, hm6, hk6, hg6⟩ := HM5.out.append Try.underlying36 hi hz0 hz1 hz2 rfl (x, y) hn
      have hg6 : w6.heap[g]? = some (.cells d e (0, 0)) := hg6.trans HG5.out
      obtain ⟨o0, n0, rfl⟩ := owns_form HM5.out.row
      have d0 : w5.cell? ⟨g, o, none⟩ = some (.slice o0 ls.length n0) := (cell_of HG5.out o).trans HCn.out.1
      have d2 : w5.cell? ⟨w.heap.size, 0, none⟩ = some (.pointer (some x)) := cell_of HX5.out 0
      have d3 : w5.cell? ⟨w.heap.size, 1, none⟩ = some (.pointer (some y)) := cell_of HX5.out 1
      have e0 : w6.cell? ⟨g, o, none⟩ = some (.slice o0 ls.length n0) := (cell_of hg6 o).trans HCn.out.1
      have f0 := frozen_of hg6 o
      have hg5w : g < w5.heap.size := HM5.out.gw
      have hl5w : w.heap.size < w5.heap.size := heap_lt HX5.out
      have HR := hide hr6
      have HM6 := hide hm6
      have HK6 := hide (HK5.out.trans (hk6.mono fun k hk => Or.inl hk))
      have HG6 := hide hg6
      clear hr6 hm6 hk6 hg6 HM5 HX5 HG5 HK5
      go_region_law (refine step_append_run3 rfl (.tmp 46) (.tmp 48) 36 rfl (.slice o0 ls.length n0) (.slice (some ⟨w5.heap.size, 0, none⟩) 1 1) (.slice o' n' cap') w6 (by simp [Act.eval]) (by simp [Act.eval]) HR.out ?_)
      all_goals
        go_end0
        refine ⟨rfl, d.set! o (.slice o' n' cap'), .slice o' n' cap', m, heap_set_same _ HG6.out, ?_, ?_, ?_, (HM6.out.set o (.slice o' n' cap')).less (fun k hk => Or.inl hk) HKS.out, HK6.out.trans (keeps_set _ _ _ _ HNK.out)⟩
        · have := (Array.getElem?_eq_some_iff.1 HCn.out.1).1
          simp [this]
        · simp [HCn.out.2.1]
        · intro j h1 h2
          rw [← HCn.out.2.2 j h2]
          simp [Ne.symm h1]

theorem put_any (x y : Addr) (g o : Nat) (w : World) (c : Array Value) (e : TypeId) (K : Nat → Prop) (vl : Value) (mo : Option Nat) (ls ks : List (Addr × Addr))
    (hg : w.heap[g]? = some (.cells c e (0, 0))) (hc0 : c[o]? = some vl) (hc1 : c[o + 1]? = some (.map mo))
    (h : PairsMem 47 w K g vl mo ls ks) (kx : K x.block) (ky : K y.block) (px : PlainAt w x) (py : PlainAt w y) (hn : ls.length ≤ 10000000) :
    Calls Try.prog 14 #[.pointer (some ⟨g, o, none⟩), .pointer (some x), .pointer (some y)] w fun e' w' => e' = .returned (.tuple #[]) ∧ PairsNow 47 w w' K g o c e (ls ++ newOf ks (x, y)) (ks ++ newOf ks (x, y)) := by
  cases hsk : (x == y || hasK ks (x, y))
  · rw [newOf_put hsk]
    obtain ⟨hxy, hno⟩ := Bool.or_eq_false_iff.1 hsk
    rcases h.map with ⟨rfl, rfl⟩ | ⟨m, _, _, rfl, _⟩
    · exact (put_none x y g o w c e K vl ls hg hc0 hc1 h kx ky px py hxy hno hn).mono fun _ _ h => ⟨h.1, h.2.now⟩
    · exact (put_some x y m g o w c e K vl ls ks hg hc0 hc1 h kx ky px py hxy hno hn).mono fun _ _ h => ⟨h.1, h.2.now⟩
  · rw [newOf_skip hsk, List.append_nil, List.append_nil]
    refine (put_skip x y mo g o w (hasK ks (x, y)) ((cell_of hg (o + 1)).trans hc1) h.gw px py (fun W hW => look_it h x y px py hW) hsk).mono ?_
    rintro e' w' ⟨rfl, hb⟩
    exact ⟨rfl, c, vl, mo, (hb.block g h.gw).trans hg, hc0, hc1, fun _ _ _ => rfl, h.later hb, keeps_of hb h.kw⟩
end Go.Proofs.Ytpkibfmjhlfafaa.PR
