/- The program's BoundOf. -/
import Derived.Test.YtihjpkldefllgakBS
namespace Go.Proofs.Ytihjpkldefllgak.Nm
open Go.ChangeShapes Go.WideShapes Go.ChangeAt Go.RowKit

set_option maxHeartbeats 2000000 in
set_option maxRecDepth 100000 in
theorem implBoundOf_any {K0 : Nat → Prop} {w : World} {h : Nat} {x : Tr} {cs : List Value} (hr : (reads K0 w h).ex x cs) (hp : ∀ b, K0 b → b < w.heap.size ∧ PlainAt w ⟨b, 0, none⟩) (hT : (wgt h).ex x ≤ 5000000) (l1 : List ByteArray) (hl1 : ∀ y, (bnd h).ex x y ∧ y ≠ und → y ∈ l1) (hlen : l1.length ≤ 10000000) (hsz : ∀ y ∈ l1, y.size ≤ maxLen) :
    Calls Try.prog 7 #[.agg cs.toArray] w fun e w' => ∃ v l, e = .returned v ∧ NRow w.heap.size w' v l ∧ Asc l ∧ (∀ y, y ∈ l ↔ (bnd h).ex x y ∧ y ≠ und) ∧ Below w.heap.size w w' := by
  obtain ⟨o1, c1, o2, c2, o3, c3, rfl⟩ := ex_form hr
  obtain ⟨V, hV⟩ : ∃ V, w.alloc (.cells #[.int .i64 x.k, .string x.s, .int .i64 x.n, .slice o1 x.l.length c1, .slice o2 x.ds.length c2, .slice o3 x.al.length c3] 34) = V := ⟨_, rfl⟩
  have hb0 : Below w.heap.size w V := by rw [← hV]; exact (Below.refl _ w).alloc (Nat.le_refl _) _
  have hbox : V.heap[w.heap.size]? = some (.cells #[.int .i64 x.k, .string x.s, .int .i64 x.n, .slice o1 x.l.length c1, .slice o2 x.ds.length c2, .slice o3 x.al.length c3] 34 (0, 0)) := by rw [← hV]; exact heap_alloc_new w _
  obtain ⟨y0, y1, y2, y3, y4, y5⟩ : V.cell? ⟨w.heap.size, 0, none⟩ = some (.int .i64 x.k) ∧ V.cell? ⟨w.heap.size, 1, none⟩ = some (.string x.s) ∧ V.cell? ⟨w.heap.size, 2, none⟩ = some (.int .i64 x.n) ∧ V.cell? ⟨w.heap.size, 3, none⟩ = some (.slice o1 x.l.length c1) ∧ V.cell? ⟨w.heap.size, 4, none⟩ = some (.slice o2 x.ds.length c2) ∧ V.cell? ⟨w.heap.size, 5, none⟩ = some (.slice o3 x.al.length c3) := ⟨cell_of hbox 0, cell_of hbox 1, cell_of hbox 2, cell_of hbox 3, cell_of hbox 4, cell_of hbox 5⟩
  have HNET := hide (netOfExp_any (K0 := K0) (w := V) ((reads_later hb0 h).1 _ _ hr) (fun b hb => by
    obtain ⟨h1, c, e, h2⟩ := hp b hb
    exact ⟨Nat.lt_of_lt_of_le h1 hb0.size, c, e, (hb0.block b h1).trans h2⟩) hT)
  have HB0 := hide hb0
  have HL1 := hide hl1
  have HSZ := hide hsz
  clear hr hp hb0 hbox hl1 hsz
  go_enter Try.func7, Try.ntmps7
  go_wp2_with fail
  refine Calls.mono HNET.out ?_
  rintro e w1 ⟨n, rfl, hN, hb1⟩
  have HN := hide hN
  have HB1 := hide (HB0.out.trans (hb1.mono HB0.out.size))
  clear hN hb1 y0 y1 y2 y3 y4 y5
  go_wp2_with fail
  refine Calls.mono (bound_any HN.out) ?_
  rintro e w2 ⟨m, nn, rfl, hm, hml, hb2⟩
  obtain ⟨w3, hdel, hm3, hg3⟩ := hm.del (s := und) (by unfold maxLen; decide) 0
  have HB2 := hide (HB1.out.trans (hb2.mono HB1.out.size))
  have HB3 : Hid (Below w.heap.size w w3) := HB2.out.trans (below_grown hg3 HB2.out.size fun k hk => by have e := Option.some.inj hk; have := HB1.out.size; omega)
  have HM3 := hide hm3
  unfold und at hdel
  clear hm hb2 hm3 hg3
  go_wp2_with fail
  refine Calls.mono (ascending_any HM3.out l1 HL1.out hlen (fun y hy => HSZ.out y (HL1.out y hy))) ?_
  rintro e w4 ⟨v, l, rfl, hn, hasc, hmem, hb4⟩
  have HN4 := hide (hn.base HB3.out.size)
  have HASC := hide hasc
  have HMEM := hide hmem
  have HB4 := hide (HB3.out.trans (hb4.mono HB3.out.size))
  clear hn hasc hmem hb4
  go_wp2
  go_ret
  exact ⟨_, l, rfl, HN4.out, HASC.out, HMEM.out, HB4.out⟩
end Go.Proofs.Ytihjpkldefllgak.Nm
