/- The program's held.datas: a pair of datas. -/
import Derived.Test.YtegcebeaelpjhajHX
namespace Go.Proofs.Ytegcebeaelpjhaj
open Go.ChangeShapes Go.WideShapes Go.ChangeAt Go.RowKit

def wdn (h : Nat) (d : Tr) : Nat := (d.l.map (wcn h)).sum
/-- Of two datas: the names, how many makers, and that these are right with each other. -/
def DatOk (W : World) (KP : Nat → Prop) (ks : Nat → List (Addr × Addr)) (a b : Tr) : Prop := a.s = b.s ∧ a.l.length = b.l.length ∧ ∀ (k : Nat) (c e : Tr), a.l[k]? = some c → b.l[k]? = some e → ConOk W KP ks c e
theorem DatOk.more {W : World} {KP : Nat → Prop} {ks ks' : Nat → List (Addr × Addr)} {a b : Tr} (h : DatOk W KP ks a b) (hk : ∀ j, j < 4 → ∀ p ∈ ks j, p ∈ ks' j) : DatOk W KP ks' a b := ⟨h.1, h.2.1, fun k c e h1 h2 => (h.2.2 k c e h1 h2).more hk⟩

set_option maxHeartbeats 2000000 in
set_option maxRecDepth 100000 in
theorem look_datas {W w : World} {K KP : Nat → Prop} {F : Prop} {g h : Nat} {t u : Tr} {ls ks : Nat → List (Addr × Addr)} {ca cb : List Value} (hKP : ∀ b, KP b → K b) (hk : Keeps K W w) (hp : ∀ b, KP b → PlainAt W ⟨b, 0, none⟩) (hh : HeldMem TT w K g ls ks) (rx : daR KP W h t ca) (ry : daR KP W h u cb)
    (hn : (ls 3).length + wdn h t ≤ 4000000) :
    Calls Try.prog 28 #[.pointer (some ⟨g, 0, none⟩), .agg ca.toArray, .agg cb.toArray] w fun e w' => ∃ b, e = .returned (.bool b) ∧ Keeps K W w' ∧ (b = false → t ≠ u) ∧ (b = true → ∃ ls' ks', HeldMem TT w' K g ls' ks' ∧ (∀ j, j < 4 → ∀ q ∈ ks j, q ∈ ks' j) ∧ (ls' 3).length ≤ (ls 3).length + wdn h t ∧ ((F → t = u) → Grown W KP F ls ks ls' ks' (wdn h t)) ∧ DatOk W KP ks' t u) := by
  obtain ⟨a1, a2, a3, a4, a5, o1, c1, rfl, -, f1, r1⟩ := rx
  obtain ⟨b1, b2, b3, b4, b5, p1, d1, rfl, -, g1, q1⟩ := ry
  generalize hV : ((w.alloc (.cells #[.string t.s, .slice o1 t.l.length c1] 62)).alloc (.cells #[.string u.s, .slice p1 u.l.length d1] 62)) = V
  have hbV : Below w.heap.size w V := by rw [← hV]; exact ((Below.refl _ w).alloc (Nat.le_refl _) _).alloc (by simp) _
  have hsV : V.heap.size = w.heap.size + 2 := by rw [← hV]; simp
  have ha : V.heap[w.heap.size]? = some (.cells #[.string t.s, .slice o1 t.l.length c1] 62 (0, 0)) := by rw [← hV]; exact (Below.heap_alloc _ _ _ (by simp)).trans (heap_alloc_new w _)
  have hb : V.heap[w.heap.size + 1]? = some (.cells #[.string u.s, .slice p1 u.l.length d1] 62 (0, 0)) := by rw [← hV]; exact heap_alloc2_new w _ _
  have x0 := cell_of ha 0
  have x1 := cell_of ha 1
  have y0 := cell_of hb 0
  have y1 := cell_of hb 1
  simp only [List.getElem?_toArray, List.getElem?_cons_succ, List.getElem?_cons_zero] at x0 x1 y0 y1
  have HKV := hide (hk.trans (keeps_of hbV (held_kw hh)))
  have HHV := hide (hh.later hbV)
  have HKPP := hide hKP
  have HP := hide hp
  have R1 := hide r1
  have Q1 := hide q1
  have F1 := hide f1.1
  have G1 := hide g1.1
  have HZ : Hid (t.s = u.s → t.l = u.l → t = u) := fun h1 h2 => tr_ext (a1.trans b1.symm) h1 (a2.trans b2.symm) (a3.trans b3.symm) h2 (a4.trans b4.symm) (a5.trans b5.symm)
  have HN := hide hn
  clear a1 a2 a3 a4 a5 b1 b2 b3 b4 b5 r1 q1 f1 g1 hk hh hKP hp ha hb hbV hn
  cases hq : (t.s.toList == u.s.toList)
  · have HNE : Hid (t ≠ u) := by
      intro e
      rw [e, beq_self_eq_true] at hq
      cases hq
    go_enter Try.func28, Try.ntmps28
    go_wp2
    go_ret
    exact ⟨false, rfl, HKV.out, (fun _ => HNE.out), fun h => (by cases h)⟩
  have HSE : Hid (t.s = u.s) := (eqS_iff t.s u.s).1 hq
  go_enter Try.func28, Try.ntmps28
  go_wp2_with fail
  refine (eqCons_any (F := F) HKPP.out HP.out V ls ks HKV.out HHV.out t.l u.l o1 p1 c1 d1 R1.out Q1.out F1.out G1.out HN.out).mono ?_
  rintro e w1 ⟨b, rfl, hk2, hfa, htr⟩
  have HK2 := hide hk2
  have HF := hide hfa
  have HT := hide htr
  clear hk2 hfa htr
  go_wp2
  go_ret
  refine ⟨b, rfl, HK2.out, fun hb e => HF.out hb (by rw [e]), fun hb => ?_⟩
  obtain ⟨ls', ks', h1, h2, h3, h4, h5, h6⟩ := HT.out hb
  exact ⟨ls', ks', h1, h2, h3, fun hF => h4 fun f => (by rw [hF f]), HSE.out, h5, h6⟩
end Go.Proofs.Ytegcebeaelpjhaj
