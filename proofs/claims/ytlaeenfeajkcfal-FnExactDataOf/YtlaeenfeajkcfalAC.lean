/- The program's makersOf, ArityOf. -/
import Derived.Test.YtlaeenfeajkcfalAB
import Derived.Test.YtlaeenfeajkcfalPD
namespace Go.Proofs.Ytlaeenfeajkcfal.Kn
open Go.ChangeShapes Go.WideShapes Go.ChangeAt Go.RowKit

def bTrue : ByteArray := ⟨#[84, 114, 117, 101]⟩
def bFalse : ByteArray := ⟨#[70, 97, 108, 115, 101]⟩
def bBool : ByteArray := ⟨#[66, 111, 111, 108]⟩
def given : List Mk := [(bTrue, bBool, 0), (bFalse, bBool, 0)]
def consM (ds : List Tr) : List Mk := ds.flatMap fun d => d.l.map fun c => (c.s, d.s, c.l.length)
def madeL (ds : List Tr) : List Mk := (given ++ consM ds).foldl putL []
theorem consM_take {ds : List Tr} {i : Nat} {d : Tr} (h : ds[i]? = some d) : consM (ds.take (i + 1)) = consM (ds.take i) ++ d.l.map fun c => (c.s, d.s, c.l.length) := by
  unfold consM
  rw [List.take_add_one, h, List.flatMap_append]
  simp
theorem mk_take {l : List Tr} {i : Nat} {c : Tr} (d : ByteArray) (h : l[i]? = some c) : ((l.take (i + 1)).map fun c => ((c.s, d, c.l.length) : Mk)) = ((l.take i).map fun c => (c.s, d, c.l.length)) ++ [(c.s, d, c.l.length)] := by
  rw [List.take_add_one, h, List.map_append]
  rfl
theorem foldl_app (A B : List Mk) : (A ++ B).foldl putL [] = B.foldl putL (A.foldl putL []) := List.foldl_append
theorem find_made (ds : List Tr) (g : ByteArray) : findM (madeL ds) g = findM (given ++ consM ds) g := find_puts _ [] g
theorem below_of_grown {B m : Nat} {w w' : World} (h : w.grownBy w' (some m)) (hB : B ≤ w.heap.size) (hm : B ≤ m) : Below B w w' :=
  ⟨h.os, h.tape, h.output, h.size, fun k hk => h.block k (by omega) (fun e => by have := Option.some.inj e; omega)⟩

theorem retI {a b : Int} (h : a = b) : Ending.returned (.int .i64 a) = .returned (.int .i64 b) := by rw [h]
theorem retS {a b : ByteArray} (h : a = b) : Ending.returned (.string a) = .returned (.string b) := by rw [h]
set_option maxHeartbeats 2000000 in
set_option maxRecDepth 100000 in
theorem makersOf_any {K : Nat → Prop} {w : World} {h : Nat} {x : Tr} {cs : List Value} (hr : prR K w h x cs) :
    Calls Try.prog 20 #[.agg cs.toArray] w fun e w' => ∃ m, e = .returned (.map (some m)) ∧ w.heap.size ≤ m ∧ MkMap w' m (madeL x.l) ∧ Below w.heap.size w w' := by
  obtain ⟨-, -, -, -, -, o1, c1, o2, c2, rfl, hl, hd, q1, q2⟩ := hr
  have HB0 : Hid (Below w.heap.size w ((w.alloc (.cells #[.slice o1 x.l.length c1, .slice o2 x.ds.length c2] 31)).alloc (.map #[] 0))) := ((Below.refl _ w).alloc (Nat.le_refl _) _).alloc (by simp) _
  have HX0 : Hid (((w.alloc (.cells #[.slice o1 x.l.length c1, .slice o2 x.ds.length c2] 31)).alloc (.map #[] 0)).heap[w.heap.size]? = some (.cells #[.slice o1 x.l.length c1, .slice o2 x.ds.length c2] 31 (0, 0))) := (Below.heap_alloc _ _ _ (by simp)).trans (heap_alloc_new w _)
  have HM0 : Hid (MkMap ((w.alloc (.cells #[.slice o1 x.l.length c1, .slice o2 x.ds.length c2] 31)).alloc (.map #[] 0)) (w.heap.size + 1) []) := ⟨List.Pairwise.nil, #[], 0, heap_alloc2_new w _ _, rfl⟩
  have HQ := hide q1
  have hl2 : x.l.length ≤ 9223372036854775807 := hl.1
  clear hl hd q1 q2
  have hmm := @run_makeMap Try.prog
  go_enter Try.func20, Try.ntmps20
  go_wp2_with fail
  refine (put_any HM0.out bTrue bBool 0).mono ?_
  rintro e w1 ⟨rfl, hm, hg⟩
  have hB1 : w.heap.size ≤ ((w.alloc (.cells #[.slice o1 x.l.length c1, .slice o2 x.ds.length c2] 31)).alloc (.map #[] 0)).heap.size := HB0.out.size
  have HB1 := hide (HB0.out.trans (below_of_grown hg hB1 (by omega)))
  have HX1 := hide ((hg.block w.heap.size (heap_lt HX0.out) (by intro e; have := Option.some.inj e; omega)).trans HX0.out)
  have HM1 := hide hm
  clear hm hg hB1
  go_wp2_with fail
  refine (put_any HM1.out bFalse bBool 0).mono ?_
  rintro e w2 ⟨rfl, hm, hg⟩
  have hB1 : w.heap.size ≤ w1.heap.size := HB1.out.size
  have HB2 := hide (HB1.out.trans (below_of_grown hg hB1 (by omega)))
  have HX2 := hide ((hg.block w.heap.size (heap_lt HX1.out) (by intro e; have := Option.some.inj e; omega)).trans HX1.out)
  have HM2 : Hid (MkMap w2 (w.heap.size + 1) ((given ++ consM (x.l.take 0)).foldl putL [])) := hm
  clear hm hg hB1
  have x0 := cell_of HX2.out 0
  simp only [List.getElem?_toArray, List.getElem?_cons_zero] at x0
  go_wp2
  go_loopw [18] (fun t wr => ∃ i : Nat, i ≤ x.l.length ∧ t = .int .i64 i ∧ MkMap wr (w.heap.size + 1) ((given ++ consM (x.l.take i)).foldl putL []) ∧ Below w.heap.size w wr) (fun t _ => x.l.length - (intOf t).toNat)
  case atStart => exact ⟨0, Nat.zero_le _, rfl, HM2.out, HB2.out⟩
  case round =>
    obtain ⟨i, hi, rfl, hm, hb⟩ := hrel
    have HM := hide hm
    have HB := hide hb
    clear hm hb x0
    by_cases hlt : i < x.l.length
    · have hne : x.l ≠ [] := by intro e; rw [e] at hlt; simp at hlt
      obtain ⟨d, hx⟩ : ∃ d, x.l[i]? = some d := ⟨x.l[i], List.getElem?_eq_getElem hlt⟩
      obtain ⟨b, off, eo, -, hbl, hcs⟩ := HQ.out hne
      subst eo
      obtain ⟨cs, hlen, hkey, hrd⟩ := hcs i d hx
      obtain ⟨-, -, -, -, -, od, cd, rfl, -, hfd, hrd⟩ := hrd
      have q0 := (HB.out.cell (p := ⟨b, off + i * 2 + 0, none⟩) hbl).trans (hkey 0 _ rfl)
      have q1 := (HB.out.cell (p := ⟨b, off + i * 2 + 1, none⟩) hbl).trans (hkey 1 _ rfl)
      rw [Nat.add_zero] at q0
      have HX := hide hx
      have HRD := hide hrd
      have hd2 : d.l.length ≤ 9223372036854775807 := hfd.1
      have HA : Hid (Below wr.heap.size wr (wr.alloc (.cells #[.string d.s, .slice od d.l.length cd] 49))) := (Below.refl _ wr).alloc (Nat.le_refl _) _
      have HY : Hid ((wr.alloc (.cells #[.string d.s, .slice od d.l.length cd] 49)).heap[wr.heap.size]? = some (.cells #[.string d.s, .slice od d.l.length cd] 49 (0, 0))) := heap_alloc_new wr _
      have hsz : w.heap.size ≤ wr.heap.size := HB.out.size
      have hmlt := HM.out.lt
      clear hcs hx hne hkey hlen hrd hfd
      have hlt2 : (i : Int) < x.l.length := by omega
      go_wp2
      generalize hV : wr = V at *
      clear hV
      go_loopw [25] (fun t wr => ∃ k : Nat, k ≤ d.l.length ∧ t = .int .i64 k ∧ MkMap wr (w.heap.size + 1) ((given ++ (consM (x.l.take i) ++ (d.l.take k).map fun c => (c.s, d.s, c.l.length))).foldl putL []) ∧ Below w.heap.size w wr ∧ wr.heap[V.heap.size]? = some (.cells #[.string d.s, .slice od d.l.length cd] 49 (0, 0))) (fun t _ => d.l.length - (intOf t).toNat)
      case atStart =>
        refine ⟨0, Nat.zero_le _, rfl, ?_, HB.out.trans (HA.out.mono hsz), HY.out⟩
        have := HM.out.later HA.out
        simpa using this
      case round =>
        obtain ⟨k, hk, rfl, hm, hb, hy⟩ := hrel
        have HMk := hide hm
        have HBk := hide hb
        have HYk := hide hy
        clear hm hb hy
        by_cases hlk : k < d.l.length
        · have hne : d.l ≠ [] := by intro e; rw [e] at hlk; simp at hlk
          obtain ⟨c, hx⟩ : ∃ c, d.l[k]? = some c := ⟨d.l[k], List.getElem?_eq_getElem hlk⟩
          obtain ⟨b2, off2, eo, -, hbl2, hcs⟩ := HRD.out hne
          subst eo
          obtain ⟨cs, hlen, hkey, hrd⟩ := hcs k c hx
          obtain ⟨-, -, -, -, -, oc, cc, rfl, -, hfc, -⟩ := hrd
          have r0 := (HBk.out.cell (p := ⟨b2, off2 + k * 2 + 0, none⟩) hbl2).trans (hkey 0 _ rfl)
          have r1 := (HBk.out.cell (p := ⟨b2, off2 + k * 2 + 1, none⟩) hbl2).trans (hkey 1 _ rfl)
          rw [Nat.add_zero] at r0
          have y0 := cell_of HYk.out 0
          simp only [List.getElem?_toArray, List.getElem?_cons_zero] at y0
          have HC := hide hx
          have hc2 : c.l.length ≤ 9223372036854775807 := hfc.1
          have HA2 : Hid (Below wr.heap.size wr (wr.alloc (.cells #[.string c.s, .slice oc c.l.length cc] 51))) := (Below.refl _ wr).alloc (Nat.le_refl _) _
          have hylt := heap_lt HYk.out
          have hsz2 : w.heap.size ≤ wr.heap.size := HBk.out.size
          clear hcs hx hne hkey hlen hfc
          have hlk2 : (k : Int) < d.l.length := by omega
          go_wp2_with fail
          refine (put_any (HMk.out.later HA2.out) c.s d.s c.l.length).mono ?_
          rintro e w4 ⟨rfl, hm, hg⟩
          have HB4 := hide ((HBk.out.trans (HA2.out.mono hsz2)).trans (below_of_grown (B := w.heap.size) hg (Nat.le_trans hsz2 HA2.out.size) (by omega)))
          have HY4 := hide ((hg.block V.heap.size (Nat.lt_of_lt_of_le hylt HA2.out.size) (by intro e; have := Option.some.inj e; omega)).trans ((HA2.out.block V.heap.size hylt).trans HYk.out))
          have HM4 := hide hm
          clear hm hg
          go_wp2
          go_round
          case rel =>
            refine ⟨k + 1, by omega, by go_num, ?_, HB4.out, HY4.out⟩
            rw [mk_take d.s HC.out, ← List.append_assoc, ← List.append_assoc, puts_snoc, List.append_assoc]
            exact HM4.out
          case measure => simp [intOf]; omega
        · go_wp2
          go_round
          case rel =>
            refine ⟨i + 1, by omega, by go_num, ?_, HBk.out⟩
            have := HMk.out
            rw [List.take_of_length_le (l := d.l) (by omega)] at this
            rw [consM_take HX.out]
            exact this
          case measure => simp [intOf]; omega
    · go_wp2
      go_ret
      refine ⟨_, rfl, by omega, ?_, HB.out⟩
      have := HM.out
      rw [List.take_of_length_le (by omega)] at this
      exact this

/-- How many parts, and of which data: what the makers say of a great name. -/
def arityZ (ds : List Tr) (g : ByteArray) : Int := match findM (given ++ consM ds) g with | none => -1 | some p => p.2.2
def dataZ (ds : List Tr) (g : ByteArray) : ByteArray := match findM (given ++ consM ds) g with | none => ⟨#[]⟩ | some p => p.2.1
end Go.Proofs.Ytlaeenfeajkcfal.Kn
