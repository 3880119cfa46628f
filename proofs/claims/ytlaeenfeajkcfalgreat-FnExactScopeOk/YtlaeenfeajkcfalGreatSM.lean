/- Made of AC, UD, AD. -/
import Derived.Test.YtlaeenfeajkcfalGreatSK
import Derived.Test.YtlaeenfeajkcfalGreatSL
import Derived.Test.YtlaeenfeajkcfalGreatUC
namespace Go.Proofs.YtlaeenfeajkcfalGreat.Kn
open Go.ChangeShapes Go.WideShapes Go.ChangeAt Go.RowKit

def bTrue : ByteArray := ⟨#[84, 114, 117, 101]⟩
def bFalse : ByteArray := ⟨#[70, 97, 108, 115, 101]⟩
def bBool : ByteArray := ⟨#[66, 111, 111, 108]⟩
def given : List Mk := [(bTrue, bBool, 0), (bFalse, bBool, 0)]
def consM (ds : List Tr) : List Mk := ds.flatMap fun d => d.l.map fun c => (c.s, d.s, c.l.length)
def madeL (ds : List Tr) : List Mk := (given ++ consM ds).foldl putL []
theorem consM_take {ds : List Tr} {i : Nat} {d : Tr} (h : ds[i]? = some d) : consM (ds.take (i + 1)) = consM (ds.take i) ++ d.l.map fun c => (c.s, d.s, c.l.length) := by
  unfold consM
  rw [List.take_add_one, h, List.flatMap_append]
  simp
theorem mk_take {l : List Tr} {i : Nat} {c : Tr} (d : ByteArray) (h : l[i]? = some c) : ((l.take (i + 1)).map fun c => ((c.s, d, c.l.length) : Mk)) = ((l.take i).map fun c => (c.s, d, c.l.length)) ++ [(c.s, d, c.l.length)] := by
  rw [List.take_add_one, h, List.map_append]
  rfl
theorem find_made (ds : List Tr) (g : ByteArray) : findM (madeL ds) g = findM (given ++ consM ds) g := find_puts _ [] g
theorem below_of_grown {B m : Nat} {w w' : World} (h : w.grownBy w' (some m)) (hB : B ≤ w.heap.size) (hm : B ≤ m) : Below B w w' :=
  ⟨h.os, h.tape, h.output, h.size, fun k hk => h.block k (by omega) (fun e => by have := Option.some.inj e; omega)⟩

theorem retI {a b : Int} (h : a = b) : Ending.returned (.int .i64 a) = .returned (.int .i64 b) := by rw [h]
set_option maxHeartbeats 2000000 in
set_option maxRecDepth 100000 in
theorem makersOf_any {K : Nat → Prop} {w : World} {h : Nat} {x : Tr} {cs : List Value} (hr : prR K w h x cs) :
    Calls Tryz.prog 19 #[.agg cs.toArray] w fun e w' => ∃ m, e = .returned (.map (some m)) ∧ w.heap.size ≤ m ∧ MkMap w' m (madeL x.l) ∧ Below w.heap.size w w' := by
  obtain ⟨-, -, -, -, -, o1, c1, o2, c2, rfl, hl, hd, q1, q2⟩ := hr
  have HB0 : Hid (Below w.heap.size w ((w.alloc (.cells #[.slice o1 x.l.length c1, .slice o2 x.ds.length c2] 31)).alloc (.map #[] 0))) := ((Below.refl _ w).alloc (Nat.le_refl _) _).alloc (by simp) _
  have HX0 : Hid (((w.alloc (.cells #[.slice o1 x.l.length c1, .slice o2 x.ds.length c2] 31)).alloc (.map #[] 0)).heap[w.heap.size]? = some (.cells #[.slice o1 x.l.length c1, .slice o2 x.ds.length c2] 31 (0, 0))) := (Below.heap_alloc _ _ _ (by simp)).trans (heap_alloc_new w _)
  have HM0 : Hid (MkMap ((w.alloc (.cells #[.slice o1 x.l.length c1, .slice o2 x.ds.length c2] 31)).alloc (.map #[] 0)) (w.heap.size + 1) []) := ⟨List.Pairwise.nil, #[], 0, heap_alloc2_new w _ _, rfl⟩
  have HQ := hide q1
  have hl2 : x.l.length ≤ 9223372036854775807 := hl.1
  clear hl hd q1 q2
  have hmm := @run_makeMap Tryz.prog
  go_enter Tryz.func19, Tryz.ntmps19
  go_wp2_with fail
  refine (put_any HM0.out bTrue bBool 0).mono ?_
  rintro e w1 ⟨rfl, hm, hg⟩
  have hB1 : w.heap.size ≤ ((w.alloc (.cells #[.slice o1 x.l.length c1, .slice o2 x.ds.length c2] 31)).alloc (.map #[] 0)).heap.size := HB0.out.size
  have HB1 := hide (HB0.out.trans (below_of_grown hg hB1 (by omega)))
  have HX1 := hide ((hg.block w.heap.size (heap_lt HX0.out) (by intro e; have := Option.some.inj e; omega)).trans HX0.out)
  have HM1 := hide hm
  clear hm hg hB1
  go_wp2_with fail
  refine (put_any HM1.out bFalse bBool 0).mono ?_
  rintro e w2 ⟨rfl, hm, hg⟩
  have hB1 : w.heap.size ≤ w1.heap.size := HB1.out.size
  have HB2 := hide (HB1.out.trans (below_of_grown hg hB1 (by omega)))
  have HX2 := hide ((hg.block w.heap.size (heap_lt HX1.out) (by intro e; have := Option.some.inj e; omega)).trans HX1.out)
  have HM2 : Hid (MkMap w2 (w.heap.size + 1) ((given ++ consM (x.l.take 0)).foldl putL [])) := hm
  clear hm hg hB1
  have x0 := cell_of HX2.out 0
  simp only [List.getElem?_toArray, List.getElem?_cons_zero] at x0
  go_wp2
  go_loopw [18] (fun t wr => ∃ i : Nat, i ≤ x.l.length ∧ t = .int .i64 i ∧ MkMap wr (w.heap.size + 1) ((given ++ consM (x.l.take i)).foldl putL []) ∧ Below w.heap.size w wr) (fun t _ => x.l.length - (intOf t).toNat)
  case atStart => exact ⟨0, Nat.zero_le _, rfl, HM2.out, HB2.out⟩
  case round =>
    obtain ⟨i, hi, rfl, hm, hb⟩ := hrel
    have HM := hide hm
    have HB := hide hb
    clear hm hb x0
    by_cases hlt : i < x.l.length
    · have hne : x.l ≠ [] := by intro e; rw [e] at hlt; simp at hlt
      obtain ⟨d, hx⟩ : ∃ d, x.l[i]? = some d := ⟨x.l[i], List.getElem?_eq_getElem hlt⟩
      obtain ⟨b, off, eo, -, hbl, hcs⟩ := HQ.out hne
      subst eo
      obtain ⟨cs, hlen, hkey, hrd⟩ := hcs i d hx
      obtain ⟨-, -, -, -, -, od, cd, rfl, -, hfd, hrd⟩ := hrd
      have q0 := (HB.out.cell (p := ⟨b, off + i * 2 + 0, none⟩) hbl).trans (hkey 0 _ rfl)
      have q1 := (HB.out.cell (p := ⟨b, off + i * 2 + 1, none⟩) hbl).trans (hkey 1 _ rfl)
      rw [Nat.add_zero] at q0
      have HX := hide hx
      have HRD := hide hrd
      have hd2 : d.l.length ≤ 9223372036854775807 := hfd.1
      have HA : Hid (Below wr.heap.size wr (wr.alloc (.cells #[.string d.s, .slice od d.l.length cd] 42))) := (Below.refl _ wr).alloc (Nat.le_refl _) _
      have HY : Hid ((wr.alloc (.cells #[.string d.s, .slice od d.l.length cd] 42)).heap[wr.heap.size]? = some (.cells #[.string d.s, .slice od d.l.length cd] 42 (0, 0))) := heap_alloc_new wr _
      have hsz : w.heap.size ≤ wr.heap.size := HB.out.size
      have hmlt := HM.out.lt
      clear hcs hx hne hkey hlen hrd hfd
      have hlt2 : (i : Int) < x.l.length := by omega
      go_wp2
      generalize hV : wr = V at *
      clear hV
      go_loopw [25] (fun t wr => ∃ k : Nat, k ≤ d.l.length ∧ t = .int .i64 k ∧ MkMap wr (w.heap.size + 1) ((given ++ (consM (x.l.take i) ++ (d.l.take k).map fun c => (c.s, d.s, c.l.length))).foldl putL []) ∧ Below w.heap.size w wr ∧ wr.heap[V.heap.size]? = some (.cells #[.string d.s, .slice od d.l.length cd] 42 (0, 0))) (fun t _ => d.l.length - (intOf t).toNat)
      case atStart =>
        refine ⟨0, Nat.zero_le _, rfl, ?_, HB.out.trans (HA.out.mono hsz), HY.out⟩
        have := HM.out.later HA.out
        simpa using this
      case round =>
        obtain ⟨k, hk, rfl, hm, hb, hy⟩ := hrel
        have HMk := hide hm
        have HBk := hide hb
        have HYk := hide hy
        clear hm hb hy
        by_cases hlk : k < d.l.length
        · have hne : d.l ≠ [] := by intro e; rw [e] at hlk; simp at hlk
          obtain ⟨c, hx⟩ : ∃ c, d.l[k]? = some c := ⟨d.l[k], List.getElem?_eq_getElem hlk⟩
          obtain ⟨b2, off2, eo, -, hbl2, hcs⟩ := HRD.out hne
          subst eo
          obtain ⟨cs, hlen, hkey, hrd⟩ := hcs k c hx
          obtain ⟨-, -, -, -, -, oc, cc, rfl, -, hfc, -⟩ := hrd
          have r0 := (HBk.out.cell (p := ⟨b2, off2 + k * 2 + 0, none⟩) hbl2).trans (hkey 0 _ rfl)
          have r1 := (HBk.out.cell (p := ⟨b2, off2 + k * 2 + 1, none⟩) hbl2).trans (hkey 1 _ rfl)
          rw [Nat.add_zero] at r0
          have y0 := cell_of HYk.out 0
          simp only [List.getElem?_toArray, List.getElem?_cons_zero] at y0
          have HC := hide hx
          have hc2 : c.l.length ≤ 9223372036854775807 := hfc.1
          have HA2 : Hid (Below wr.heap.size wr (wr.alloc (.cells #[.string c.s, .slice oc c.l.length cc] 45))) := (Below.refl _ wr).alloc (Nat.le_refl _) _
          have hylt := heap_lt HYk.out
          have hsz2 : w.heap.size ≤ wr.heap.size := HBk.out.size
          clear hcs hx hne hkey hlen hfc
          have hlk2 : (k : Int) < d.l.length := by omega
          go_wp2_with fail
          refine (put_any (HMk.out.later HA2.out) c.s d.s c.l.length).mono ?_
          rintro e w4 ⟨rfl, hm, hg⟩
          have HB4 := hide ((HBk.out.trans (HA2.out.mono hsz2)).trans (below_of_grown (B := w.heap.size) hg (Nat.le_trans hsz2 HA2.out.size) (by omega)))
          have HY4 := hide ((hg.block V.heap.size (Nat.lt_of_lt_of_le hylt HA2.out.size) (by intro e; have := Option.some.inj e; omega)).trans ((HA2.out.block V.heap.size hylt).trans HYk.out))
          have HM4 := hide hm
          clear hm hg
          go_wp2
          go_round
          case rel =>
            refine ⟨k + 1, by omega, by go_num, ?_, HB4.out, HY4.out⟩
            rw [mk_take d.s HC.out, ← List.append_assoc, ← List.append_assoc, puts_snoc, List.append_assoc]
            exact HM4.out
          case measure => simp [intOf]; omega
        · go_wp2
          go_round
          case rel =>
            refine ⟨i + 1, by omega, by go_num, ?_, HBk.out⟩
            have := HMk.out
            rw [List.take_of_length_le (l := d.l) (by omega)] at this
            rw [consM_take HX.out]
            exact this
          case measure => simp [intOf]; omega
    · go_wp2
      go_ret
      refine ⟨_, rfl, by omega, ?_, HB.out⟩
      have := HM.out
      rw [List.take_of_length_le (by omega)] at this
      exact this

/-- How many parts, and of which data: what the makers say of a great name. -/
def arityZ (ds : List Tr) (g : ByteArray) : Int := match findM (given ++ consM ds) g with | none => -1 | some p => p.2.2
end Go.Proofs.YtlaeenfeajkcfalGreat.Kn
namespace Go.Proofs.YtlaeenfeajkcfalGreat.Fr
open Go.ChangeShapes Go.WideShapes Go.ChangeAt Go.RowKit Go.Proofs.YtlaeenfeajkcfalGreat.Nm Go.Proofs.YtlaeenfeajkcfalGreat.Kn
set_option linter.unusedVariables false

/-- What an alternative asks of the makers; what an expression does, but for its parts. -/
def knA (L : List Mk) (a : Tr) : Bool := (a.s.toList == []) || (Kn.look (ents L) (a.s, (a.ss.length : Int))).isSome
def knB (L : List Mk) (t : Tr) : Bool := (!(t.k == 2) || (Kn.look (ents L) (t.s, -1)).isSome) && t.al.all (knA L)
theorem all_no {f : Tr → Bool} {l : List Tr} {i : Nat} {x : Tr} (hx : l[i]? = some x) (h : f x = false) : l.all f = false := by
  cases ha : l.all f with
  | false => rfl
  | true =>
    have := List.all_eq_true.1 ha x (List.mem_of_getElem? hx)
    rw [h] at this
    cases this
theorem take_all {f : Tr → Bool} {l : List Tr} {i : Nat} {x : Tr} (hx : l[i]? = some x) (hp : ∀ z ∈ l.take i, f z = true) (h : f x = true) : ∀ z ∈ l.take (i + 1), f z = true := by
  intro z hz
  rw [List.take_add_one, hx] at hz
  rcases List.mem_append.1 hz with hz | hz
  · exact hp z hz
  · have e : z = x := by simpa using hz
    rw [e]
    exact h
theorem al_fits {K : Nat → Prop} {w : World} {h : Nat} {x : Tr} {cs : List Value} (hr : (reads K w h).al x cs) : x.ss.length ≤ maxLen := by
  cases h with
  | zero => exact hr.elim
  | succ h =>
    obtain ⟨-, -, -, -, e, o1, c1, ce, -, -, -, h9, -⟩ := hr
    exact h9.1
set_option maxHeartbeats 2000000 in
set_option maxRecDepth 100000 in
theorem knowOwn_any {K : Nat → Prop} {w : World} {h : Nat} {m : Nat} {L : List Mk} (hm : MkMap w m L) {a : Addr} {t : Tr} {cs : List Value} (ha : a.spot = none) (hca : CellsA w a cs) (hr : (reads K w (h + 1)).ex t cs) :
    Calls Tryz.prog 42 #[.map (some m), .pointer (some a)] w fun e w' => e = .returned (.bool (knB L t)) ∧ Below w.heap.size w w' := by
  obtain ⟨ab, ao, asp⟩ := a
  simp only at ha
  subst ha
  obtain ⟨x0, o1, c1, o2, c2, o3, c3, rfl, hsz, f1, f2, f3, r1, r2, r3⟩ := hr
  have q0 : w.cell? ⟨ab, ao, none⟩ = some (.int .i64 t.k) := hca 0 _ rfl
  have q1 : w.cell? ⟨ab, ao + 1, none⟩ = some (.string t.s) := hca 1 _ rfl
  have q5 : w.cell? ⟨ab, ao + 5, none⟩ = some (.slice o3 t.al.length c3) := hca 5 _ rfl
  have hab : ab < w.heap.size := World.block_lt_of_cell? w _ q0
  have HM := hide hm
  have HR3 := hide r3
  have hal2 : t.al.length ≤ 9223372036854775807 := f3.1
  clear hca hm r1 r2 r3 f1 f2 f3 hsz x0
  obtain ⟨b2, hb2⟩ : ∃ b2, (Kn.look (ents L) (t.s, -1)).isSome = b2 := ⟨_, rfl⟩
  have HKN := hide (know_any HM.out t.s (-1) b2 hb2)
  cases hb1 : (t.k == 2)
  · have HFT : Hid (knB L t = t.al.all (knA L)) := by
      show knB L t = _
      unfold knB
      rw [hb1, Bool.not_false, Bool.true_or, Bool.true_and]
    have HBW : Hid (Below w.heap.size w w) := Below.refl _ _
    clear hb2 HKN
    go_enter Tryz.func42, Tryz.ntmps42
    go_upto_region 3 with fail
    have v5 : w.cell? ⟨ab, ao + 5, none⟩ = some (.slice o3 t.al.length c3) := (HBW.out.cell (p := ⟨ab, _, none⟩) hab).trans q5
    go_wp2
    clear v5
    go_loopw [27] (fun t27 wr => ∃ i : Nat, i ≤ t.al.length ∧ t27 = .int .i64 i ∧ (∀ z ∈ t.al.take i, knA L z = true) ∧ Below w.heap.size w wr) (fun t27 _ => t.al.length - (intOf t27).toNat)
    case atStart => exact ⟨0, Nat.zero_le _, rfl, fun z hz => by simp at hz, HBW.out⟩
    case round =>
      obtain ⟨i, hi, rfl, hpre, hb⟩ := hrel
      have HPRE := hide hpre
      have HB := hide hb
      clear hpre
      by_cases hlt : i < t.al.length
      · have hne : t.al ≠ [] := by intro e; rw [e] at hlt; simp at hlt
        obtain ⟨z, hz⟩ : ∃ z, t.al[i]? = some z := ⟨t.al[i], List.getElem?_eq_getElem hlt⟩
        obtain ⟨bb, off, eo, kb, hblt, hcs⟩ := HR3.out hne
        subst eo
        obtain ⟨cs, hcl, hkey, hr⟩ := hcs i z hz
        obtain ⟨y, p0, e0, p1, e1, p2, e2, p3, e3, rfl⟩ := al_form hr
        have hzl : z.ss.length ≤ 9223372036854775807 := al_fits hr
        have p : ∀ j u, [.string z.s, .slice p0 z.ss.length e0, .int .i64 y.k, .string y.s, .int .i64 y.n, .slice p1 y.l.length e1, .slice p2 y.ds.length e2, .slice p3 y.al.length e3][j]? = some u → wr.cell? ⟨bb, off + i * 8 + j, none⟩ = some u := fun j u hu => (hb.cell (p := ⟨bb, _, none⟩) hblt).trans (hkey j u hu)
        have z0 := p 0 _ rfl
        have z1 := p 1 _ rfl
        have z2 := p 2 _ rfl
        have z3 := p 3 _ rfl
        have z4 := p 4 _ rfl
        have z5 := p 5 _ rfl
        have z6 := p 6 _ rfl
        have z7 := p 7 _ rfl
        rw [Nat.add_zero] at z0
        obtain ⟨X, hX⟩ : ∃ X, wr.alloc (.cells #[.string z.s, .slice p0 z.ss.length e0, .int .i64 y.k, .string y.s, .int .i64 y.n, .slice p1 y.l.length e1, .slice p2 y.ds.length e2, .slice p3 y.al.length e3] 116) = X := ⟨_, rfl⟩
        have hbX : Below wr.heap.size wr X := by rw [← hX]; exact (Below.refl _ wr).alloc (Nat.le_refl _) _
        have hboxX : X.heap[wr.heap.size]? = some (.cells #[.string z.s, .slice p0 z.ss.length e0, .int .i64 y.k, .string y.s, .int .i64 y.n, .slice p1 y.l.length e1, .slice p2 y.ds.length e2, .slice p3 y.al.length e3] 116 (0, 0)) := by rw [← hX]; exact heap_alloc_new wr _
        have HBX := hide (HB.out.trans (hbX.mono HB.out.size))
        have y0 := cell_of hboxX 0
        have y1 := cell_of hboxX 1
        simp only [List.getElem?_toArray, List.getElem?_cons_succ, List.getElem?_cons_zero] at y0 y1
        have HZ := hide hz
        have hlt2 : (i : Int) < t.al.length := by omega
        obtain ⟨bk, hbk⟩ : ∃ bk, (Kn.look (ents L) (z.s, (z.ss.length : Int))).isSome = bk := ⟨_, rfl⟩
        have HKX := hide (know_any (HM.out.later HBX.out) z.s (z.ss.length : Int) bk hbk)
        have HBK := hide hbk
        clear hcs hne hkey hcl hr p hb hbX hz hboxX hbk
        cases hem : (z.s.toList == [])
        · have hem2 : ¬ (z.s.toList = []) := by simpa using hem
          cases bk
          · have HN : Hid (knB L t = false) := by
              show knB L t = false
              rw [HFT.out]
              exact all_no HZ.out (by unfold knA; rw [hem, HBK.out]; rfl)
            go_wp2_with fail
            refine Calls.mono HKX.out ?_
            rintro e w4 ⟨rfl, hb4⟩
            have HB4 := hide (HBX.out.trans (hb4.mono HBX.out.size))
            clear hb4
            go_wp2
            go_ret
            exact ⟨ret_b HN.out.symm, HB4.out⟩
          · have HN : Hid (knA L z = true) := by
              show knA L z = true
              unfold knA
              rw [HBK.out, Bool.or_true]
            go_wp2_with fail
            refine Calls.mono HKX.out ?_
            rintro e w4 ⟨rfl, hb4⟩
            have HB4 := hide (HBX.out.trans (hb4.mono HBX.out.size))
            clear hb4
            go_wp2
            go_roundw
            case rel => exact ⟨i + 1, by omega, by go_num, take_all HZ.out HPRE.out HN.out, HB4.out⟩
            case measure => simp [intOf]; omega
        · have hem2 : z.s.toList = [] := by simpa using hem
          have HN : Hid (knA L z = true) := by
            show knA L z = true
            unfold knA
            rw [hem, Bool.true_or]
          go_wp2
          go_roundw
          case rel => exact ⟨i + 1, by omega, by go_num, take_all HZ.out HPRE.out HN.out, HBX.out⟩
          case measure => simp [intOf]; omega
      · have HN : Hid (knB L t = true) := by
          show knB L t = true
          rw [HFT.out]
          exact List.all_eq_true.2 fun z hz => HPRE.out z (by rw [List.take_of_length_le (by omega)]; exact hz)
        clear hb
        go_wp2
        go_ret
        exact ⟨ret_b HN.out.symm, HB.out⟩
  · cases b2
    · have HN : Hid (knB L t = false) := by
        show knB L t = false
        unfold knB
        rw [hb1, hb2]
        rfl
      clear hb2
      go_enter Tryz.func42, Tryz.ntmps42
      go_wp2_with fail
      refine Calls.mono HKN.out ?_
      rintro e w1 ⟨rfl, hb⟩
      have HB := hide hb
      clear hb
      go_wp2
      go_ret
      exact ⟨ret_b HN.out.symm, HB.out⟩
    · have HFT : Hid (knB L t = t.al.all (knA L)) := by
        show knB L t = _
        unfold knB
        rw [hb2, Bool.or_true, Bool.true_and]
      clear hb2
      go_enter Tryz.func42, Tryz.ntmps42
      go_wp2_with fail
      refine Calls.mono HKN.out ?_
      rintro e w1 ⟨rfl, hb⟩
      have HBW := hide hb
      clear hb
      go_upto_region 3 with fail
      have v5 : w1.cell? ⟨ab, ao + 5, none⟩ = some (.slice o3 t.al.length c3) := (HBW.out.cell (p := ⟨ab, _, none⟩) hab).trans q5
      go_wp2
      clear v5
      go_loopw [27] (fun t27 wr => ∃ i : Nat, i ≤ t.al.length ∧ t27 = .int .i64 i ∧ (∀ z ∈ t.al.take i, knA L z = true) ∧ Below w.heap.size w wr) (fun t27 _ => t.al.length - (intOf t27).toNat)
      case atStart => exact ⟨0, Nat.zero_le _, rfl, fun z hz => by simp at hz, HBW.out⟩
      case round =>
        obtain ⟨i, hi, rfl, hpre, hb⟩ := hrel
        have HPRE := hide hpre
        have HB := hide hb
        clear hpre
        by_cases hlt : i < t.al.length
        · have hne : t.al ≠ [] := by intro e; rw [e] at hlt; simp at hlt
          obtain ⟨z, hz⟩ : ∃ z, t.al[i]? = some z := ⟨t.al[i], List.getElem?_eq_getElem hlt⟩
          obtain ⟨bb, off, eo, kb, hblt, hcs⟩ := HR3.out hne
          subst eo
          obtain ⟨cs, hcl, hkey, hr⟩ := hcs i z hz
          obtain ⟨y, p0, e0, p1, e1, p2, e2, p3, e3, rfl⟩ := al_form hr
          have hzl : z.ss.length ≤ 9223372036854775807 := al_fits hr
          have p : ∀ j u, [.string z.s, .slice p0 z.ss.length e0, .int .i64 y.k, .string y.s, .int .i64 y.n, .slice p1 y.l.length e1, .slice p2 y.ds.length e2, .slice p3 y.al.length e3][j]? = some u → wr.cell? ⟨bb, off + i * 8 + j, none⟩ = some u := fun j u hu => (hb.cell (p := ⟨bb, _, none⟩) hblt).trans (hkey j u hu)
          have z0 := p 0 _ rfl
          have z1 := p 1 _ rfl
          have z2 := p 2 _ rfl
          have z3 := p 3 _ rfl
          have z4 := p 4 _ rfl
          have z5 := p 5 _ rfl
          have z6 := p 6 _ rfl
          have z7 := p 7 _ rfl
          rw [Nat.add_zero] at z0
          obtain ⟨X, hX⟩ : ∃ X, wr.alloc (.cells #[.string z.s, .slice p0 z.ss.length e0, .int .i64 y.k, .string y.s, .int .i64 y.n, .slice p1 y.l.length e1, .slice p2 y.ds.length e2, .slice p3 y.al.length e3] 116) = X := ⟨_, rfl⟩
          have hbX : Below wr.heap.size wr X := by rw [← hX]; exact (Below.refl _ wr).alloc (Nat.le_refl _) _
          have hboxX : X.heap[wr.heap.size]? = some (.cells #[.string z.s, .slice p0 z.ss.length e0, .int .i64 y.k, .string y.s, .int .i64 y.n, .slice p1 y.l.length e1, .slice p2 y.ds.length e2, .slice p3 y.al.length e3] 116 (0, 0)) := by rw [← hX]; exact heap_alloc_new wr _
          have HBX := hide (HB.out.trans (hbX.mono HB.out.size))
          have y0 := cell_of hboxX 0
          have y1 := cell_of hboxX 1
          simp only [List.getElem?_toArray, List.getElem?_cons_succ, List.getElem?_cons_zero] at y0 y1
          have HZ := hide hz
          have hlt2 : (i : Int) < t.al.length := by omega
          obtain ⟨bk, hbk⟩ : ∃ bk, (Kn.look (ents L) (z.s, (z.ss.length : Int))).isSome = bk := ⟨_, rfl⟩
          have HKX := hide (know_any (HM.out.later HBX.out) z.s (z.ss.length : Int) bk hbk)
          have HBK := hide hbk
          clear hcs hne hkey hcl hr p hb hbX hz hboxX hbk
          cases hem : (z.s.toList == [])
          · have hem2 : ¬ (z.s.toList = []) := by simpa using hem
            cases bk
            · have HN : Hid (knB L t = false) := by
                show knB L t = false
                rw [HFT.out]
                exact all_no HZ.out (by unfold knA; rw [hem, HBK.out]; rfl)
              go_wp2_with fail
              refine Calls.mono HKX.out ?_
              rintro e w4 ⟨rfl, hb4⟩
              have HB4 := hide (HBX.out.trans (hb4.mono HBX.out.size))
              clear hb4
              go_wp2
              go_ret
              exact ⟨ret_b HN.out.symm, HB4.out⟩
            · have HN : Hid (knA L z = true) := by
                show knA L z = true
                unfold knA
                rw [HBK.out, Bool.or_true]
              go_wp2_with fail
              refine Calls.mono HKX.out ?_
              rintro e w4 ⟨rfl, hb4⟩
              have HB4 := hide (HBX.out.trans (hb4.mono HBX.out.size))
              clear hb4
              go_wp2
              go_roundw
              case rel => exact ⟨i + 1, by omega, by go_num, take_all HZ.out HPRE.out HN.out, HB4.out⟩
              case measure => simp [intOf]; omega
          · have hem2 : z.s.toList = [] := by simpa using hem
            have HN : Hid (knA L z = true) := by
              show knA L z = true
              unfold knA
              rw [hem, Bool.true_or]
            go_wp2
            go_roundw
            case rel => exact ⟨i + 1, by omega, by go_num, take_all HZ.out HPRE.out HN.out, HBX.out⟩
            case measure => simp [intOf]; omega
        · have HN : Hid (knB L t = true) := by
            show knB L t = true
            rw [HFT.out]
            exact List.all_eq_true.2 fun z hz => HPRE.out z (by rw [List.take_of_length_le (by omega)]; exact hz)
          clear hb
          go_wp2
          go_ret
          exact ⟨ret_b HN.out.symm, HB.out⟩
end Go.Proofs.YtlaeenfeajkcfalGreat.Fr
namespace Go.Proofs.YtlaeenfeajkcfalGreat.Kn
open Go.ChangeShapes Go.WideShapes Go.ChangeAt Go.RowKit

theorem find_one (e : Mk) (g : ByteArray) : findM [e] g = cond (g.toList == e.1.toList) (some e) none := by
  unfold findM
  rw [List.find?_cons]
  cases (g.toList == e.1.toList) <;> rfl
theorem lTrue : bTrue.toList = [84, 114, 117, 101] := by rw [ByteArray.toList_eq]; rfl
theorem lFalse : bFalse.toList = [70, 97, 108, 115, 101] := by rw [ByteArray.toList_eq]; rfl
theorem find_given (g : ByteArray) : findM given g = cond (g.toList == [84, 114, 117, 101]) (some (bTrue, bBool, 0)) (cond (g.toList == [70, 97, 108, 115, 101]) (some (bFalse, bBool, 0)) none) := by
  show findM ([(bTrue, bBool, 0)] ++ [(bFalse, bBool, 0)]) g = _
  rw [find_app, find_one, find_one]
  show (cond (g.toList == bTrue.toList) (some (bTrue, bBool, 0)) none).or (cond (g.toList == bFalse.toList) (some (bFalse, bBool, 0)) none) = _
  rw [lTrue, lFalse]
  cases (g.toList == [84, 114, 117, 101]) <;> cases (g.toList == [70, 97, 108, 115, 101]) <;> rfl
theorem consM_split {ds : List Tr} {i : Nat} {d : Tr} (h : ds[i]? = some d) : consM ds = consM (ds.take i) ++ ((d.l.map fun c => (c.s, d.s, c.l.length)) ++ consM (ds.drop (i + 1))) := by
  have h1 : ds = ds.take (i + 1) ++ ds.drop (i + 1) := (List.take_append_drop _ _).symm
  have h2 : consM ds = consM (ds.take (i + 1)) ++ consM (ds.drop (i + 1)) := by
    conv => lhs; rw [h1]
    unfold consM
    rw [List.flatMap_append]
  rw [h2, consM_take h, List.append_assoc]
theorem mk_split {l : List Tr} {k : Nat} {c : Tr} (d : ByteArray) (h : l[k]? = some c) : (l.map fun c => ((c.s, d, c.l.length) : Mk)) = ((l.take k).map fun c => (c.s, d, c.l.length)) ++ ([(c.s, d, c.l.length)] ++ ((l.drop (k + 1)).map fun c => (c.s, d, c.l.length))) := by
  conv => lhs; rw [← List.take_append_drop (k + 1) l]
  rw [List.map_append, mk_take d h, List.append_assoc]
theorem find_hit {ds : List Tr} {i k : Nat} {d c : Tr} {g : ByteArray} (hd : ds[i]? = some d) (hc : d.l[k]? = some c) (h0 : findM given g = none) (h1 : findM (consM (ds.take i)) g = none) (h2 : findM ((d.l.take k).map fun c => (c.s, d.s, c.l.length)) g = none) (h3 : (c.s.toList == g.toList) = true) :
    findM (given ++ consM ds) g = some (c.s, d.s, c.l.length) := by
  rw [find_app, h0, consM_split hd, find_app, h1, find_app, mk_split d.s hc, find_app, h2, find_app, find_one]
  show ((none : Option Mk).or _) = _
  have h4 : (g.toList == c.s.toList) = true := by rw [beq_iff_eq] at h3 ⊢; exact h3.symm
  show Option.or none (Option.or none (Option.or (Option.or none (Option.or (cond (g.toList == c.s.toList) _ _) _)) _)) = _
  rw [h4]
  rfl
theorem find_miss {l : List Tr} {k : Nat} {c : Tr} (d : ByteArray) {g : ByteArray} (hc : l[k]? = some c) (h2 : findM ((l.take k).map fun c => (c.s, d, c.l.length)) g = none) (h3 : (c.s.toList == g.toList) = false) : findM ((l.take (k + 1)).map fun c => (c.s, d, c.l.length)) g = none := by
  rw [mk_take d hc, find_app, h2, find_one]
  have h4 : (g.toList == c.s.toList) = false := by rw [beq_eq_false_iff_ne] at h3 ⊢; exact fun e => h3 e.symm
  show Option.or none (cond (g.toList == c.s.toList) _ _) = _
  rw [h4]
  rfl
theorem find_row {ds : List Tr} {i : Nat} {d : Tr} {g : ByteArray} (hd : ds[i]? = some d) (h1 : findM (consM (ds.take i)) g = none) (h2 : findM (d.l.map fun c => (c.s, d.s, c.l.length)) g = none) : findM (consM (ds.take (i + 1))) g = none := by
  rw [consM_take hd, find_app, h1, h2]
  rfl

set_option maxHeartbeats 1000000 in
set_option maxRecDepth 100000 in
theorem specArityOf_any {K : Nat → Prop} {w : World} {h : Nat} {x : Tr} {cs : List Value} (hr : prR K w h x cs) (g : ByteArray) :
    Calls Tryz.prog 58 #[.agg cs.toArray, .string g] w fun e w' => e = .returned (.int .i64 (arityZ x.l g)) ∧ Below w.heap.size w w' := by
  obtain ⟨-, -, -, -, -, o1, c1, o2, c2, rfl, hl, hd, q1, q2⟩ := hr
  have HB0 : Hid (Below w.heap.size w (w.alloc (.cells #[.slice o1 x.l.length c1, .slice o2 x.ds.length c2] 31))) := (Below.refl _ w).alloc (Nat.le_refl _) _
  have HQ := hide (q1.later HB0.out (daR_later HB0.out h))
  have hl2 : x.l.length ≤ 9223372036854775807 := hl.1
  clear hl hd q1 q2
  cases h1 : (g.toList == [84, 114, 117, 101])
  case true =>
    have HF : Hid (arityZ x.l g = 0) := by
      show arityZ x.l g = 0
      unfold arityZ
      rw [find_app, find_given, h1]
      rfl
    go_enter Tryz.func58, Tryz.ntmps58
    go_wp2
    go_ret
    exact ⟨retI HF.out.symm, HB0.out⟩
  cases h2 : (g.toList == [70, 97, 108, 115, 101])
  case true =>
    have HF : Hid (arityZ x.l g = 0) := by
      show arityZ x.l g = 0
      unfold arityZ
      rw [find_app, find_given, h1, h2]
      rfl
    go_enter Tryz.func58, Tryz.ntmps58
    go_wp2
    go_ret
    exact ⟨retI HF.out.symm, HB0.out⟩
  have HGV : Hid (findM given g = none) := by
    show findM given g = none
    rw [find_given, h1, h2]
    rfl
  go_enter Tryz.func58, Tryz.ntmps58
  go_wp2
  go_loop [5] (fun t => ∃ i : Nat, i ≤ x.l.length ∧ t = .int .i64 i ∧ findM (consM (x.l.take i)) g = none) (fun t => x.l.length - (intOf t).toNat)
  case atStart => exact ⟨0, Nat.zero_le _, rfl, rfl⟩
  case round =>
    obtain ⟨i, hi, rfl, hfi⟩ := hrel
    have HFI := hide hfi
    clear hfi
    by_cases hlt : i < x.l.length
    · have hne : x.l ≠ [] := by intro e; rw [e] at hlt; simp at hlt
      obtain ⟨d, hx⟩ : ∃ d, x.l[i]? = some d := ⟨x.l[i], List.getElem?_eq_getElem hlt⟩
      obtain ⟨b, off, eo, -, hbl, hcs⟩ := HQ.out hne
      subst eo
      obtain ⟨cs, hlen, hkey, hrd⟩ := hcs i d hx
      obtain ⟨-, -, -, -, -, od, cd, rfl, -, hfd, hrd⟩ := hrd
      have z0 := hkey 0 _ rfl
      have z1 := hkey 1 _ rfl
      rw [Nat.add_zero] at z0
      have HX := hide hx
      have HRD := hide hrd
      have hd2 : d.l.length ≤ 9223372036854775807 := hfd.1
      clear hcs hx hne hkey hlen hrd hfd
      have hlt2 : (i : Int) < x.l.length := by omega
      go_wp2
      go_loop [6] (fun t => ∃ k : Nat, k ≤ d.l.length ∧ t = .int .i64 k ∧ findM ((d.l.take k).map fun c => (c.s, d.s, c.l.length)) g = none) (fun t => d.l.length - (intOf t).toNat)
      case atStart => exact ⟨0, Nat.zero_le _, rfl, rfl⟩
      case round =>
        obtain ⟨k, hk, rfl, hfk⟩ := hrel
        have HFK := hide hfk
        clear hfk
        by_cases hlk : k < d.l.length
        · have hne : d.l ≠ [] := by intro e; rw [e] at hlk; simp at hlk
          obtain ⟨c, hx⟩ : ∃ c, d.l[k]? = some c := ⟨d.l[k], List.getElem?_eq_getElem hlk⟩
          obtain ⟨b2, off2, eo, -, hbl2, hcs⟩ := HRD.out hne
          subst eo
          obtain ⟨cs, hlen, hkey, hrd⟩ := hcs k c hx
          obtain ⟨-, -, -, -, -, oc, cc, rfl, -, hfc, -⟩ := hrd
          have y0 := hkey 0 _ rfl
          have y1 := hkey 1 _ rfl
          rw [Nat.add_zero] at y0
          have HC := hide hx
          have hc2 : c.l.length ≤ 9223372036854775807 := hfc.1
          clear hcs hx hne hkey hlen hfc
          have hlk2 : (k : Int) < d.l.length := by omega
          cases heq : (c.s.toList == g.toList)
          · have HEQ := hide heq
            go_wp2
            go_round
            case rel => exact ⟨k + 1, by omega, by go_num, find_miss d.s HC.out HFK.out HEQ.out⟩
            case measure => simp [intOf]; omega
          · have HF : Hid (arityZ x.l g = c.l.length) := by
              show arityZ x.l g = c.l.length
              unfold arityZ
              rw [find_hit HX.out HC.out HGV.out HFI.out HFK.out heq]
            go_wp2
            go_ret
            exact ⟨retI HF.out.symm, HB0.out⟩
        · go_wp2
          go_round
          case rel =>
            refine ⟨i + 1, by omega, by go_num, find_row HX.out HFI.out ?_⟩
            have := HFK.out
            rw [List.take_of_length_le (l := d.l) (by omega)] at this
            exact this
          case measure => simp [intOf]; omega
    · have HF : Hid (arityZ x.l g = -1) := by
        show arityZ x.l g = -1
        have := HFI.out
        rw [List.take_of_length_le (l := x.l) (by omega)] at this
        unfold arityZ
        rw [find_app, HGV.out, this]
        rfl
      go_wp2
      go_ret
      exact ⟨retI HF.out.symm, HB0.out⟩
end Go.Proofs.YtlaeenfeajkcfalGreat.Kn
