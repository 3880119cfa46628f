/- The library's Grow, Concat, Sort at rows of names; the program's sorted, namesOfDecs. -/
import Derived.Test.YtihjpkldefllgakGreatBB
import Derived.Test.YtihjpkldefllgakGreatXD
import Derived.Test.YtihjpkldefllgakGreatShelf
import Derived.Sort.OwnSorted
namespace Go.Proofs.YtihjpkldefllgakGreat.Nm
open Go.ChangeShapes Go.WideShapes Go.ChangeAt Go.RowKit Go.Sort

theorem enc_str (s : ByteArray) : encStr s.toList = .string s := by
  unfold encStr
  rw [ByteArray.toList_eq]
theorem enc_map (l : List ByteArray) : (l.map ByteArray.toList).map encStr = l.map Value.string := by
  rw [List.map_map]
  exact List.map_congr_left fun s _ => enc_str s
set_option maxHeartbeats 1000000 in
theorem sort_any {B : Nat} {w : World} {v : Value} {l : List ByteArray} (h : NRow B w v l) (hB : B ≤ w.heap.size) (hl : l.length ≤ 100000000) : Calls Tryz.prog 57 #[v] w fun e w' => e = .returned (.tuple #[]) ∧ Below B w w' := by
  obtain ⟨⟨h1, hc⟩, hs, hm⟩ := h
  rcases hc with ⟨rfl, h0⟩ | ⟨g, cap, cur, rfl, hb, hg, hn, hcap, hsz, htk⟩
  · refine (AnyM.slices_Sort_string_none Tryz.sort57 none 0 w).mono ?_
    rintro e w' ⟨rfl, rfl⟩
    exact ⟨rfl, Below.refl _ _⟩
  · have hH := holds_of_block (ss := l.map ByteArray.toList) hg (by rw [List.length_map, enc_map, ← htk, Nat.mul_one])
    have key := AnyM.slices_Sort_string Tryz.sort57 g 0 cap (l.map ByteArray.toList) w hH (heap_lt hg) (by rw [List.length_map]; omega)
    rw [List.length_map] at key
    refine Calls.mono key ?_
    rintro e w' ⟨rfl, n, os, rfl⟩
    exact ⟨rfl, below_grown (grownBy_sorted _) hB fun k hk => by cases hk; exact hb⟩
set_option maxHeartbeats 1000000 in
set_option maxRecDepth 100000 in
theorem grow_any (n : Nat) (w : World) (hn : n ≤ 100000000) : Calls Tryz.prog 100 #[.slice none 0 0, .int .i64 (n : Int)] w fun e w' => ∃ v, e = .returned v ∧ NRow w.heap.size w' v [] ∧ Below w.heap.size w w' := by
  have hneg : ¬ ((n : Int) < 0) := by omega
  by_cases h0 : n = 0
  · subst h0
    go_enter Tryz.func100, Tryz.ntmps100
    go_wp2
    go_ret
    exact ⟨_, rfl, ⟨World.ownsRow_nil _ _ _ _, fun s hs => (by cases hs), Nat.zero_le _⟩, Below.refl _ _⟩
  · obtain ⟨i0, hi, hz0, hz1, hz2⟩ := info_parts str_info
    have hr := Lib.run_append_nil_zeros (P := Tryz.prog) w 27 3 27 9 i0 _ .i64 .i64 Tryz.underlying27 Tryz.underlying3 hi hz0 n (by omega) (by omega) (by omega) (by rw [hz2]; omega)
    have hge := grownCap_ge w n 0 9
    have hcm : grownCap w n 0 9 ≤ maxLen := grownCap_le_maxLen w n 0 9 (by unfold maxLen; omega)
    have hsz : (Builtin.zeroCells (Value.string ⟨#[]⟩).cells n ++ Builtin.zeroCells (Value.string ⟨#[]⟩).cells (grownCap w n 0 9 - n)).size = grownCap w n 0 9 * 1 := by
      rw [Array.size_append, size_zeroCells, size_zeroCells]
      have e1 : (Value.string ⟨#[]⟩).cells.size = 1 := rfl
      rw [e1]
      omega
    generalize hC : grownCap w n 0 9 = C at hr hge hcm hsz
    generalize hZ : Builtin.zeroCells (Value.string ⟨#[]⟩).cells n ++ Builtin.zeroCells (Value.string ⟨#[]⟩).cells (C - n) = Z at hr hsz
    have HR := hide hr
    have hcm2 : C ≤ 9223372036854775807 := hcm
    have HF : Hid (NRow w.heap.size (w.drew.alloc (.cells Z 9)) (.slice (some ⟨w.heap.size, 0, none⟩) 0 C) []) := by
      refine ⟨⟨by simp, Or.inr ⟨w.heap.size, C, Z, rfl, Nat.le_refl _, heap_alloc_new w.drew _, Nat.zero_le _, hcm, hsz, by simp⟩⟩, fun s hs => (by cases hs), Nat.zero_le _⟩
    have HB : Hid (Below w.heap.size w (w.drew.alloc (.cells Z 9))) := (Below.refl _ w).drew.alloc (Nat.le_refl _) _
    have hpos : (0 : Int) < (n : Int) := by omega
    clear hr hC hZ hsz hcm
    go_enter Tryz.func100, Tryz.ntmps100
    go_wp2_with (at_builtin; refine Lib.wpList_append_run _ rfl _ _ _ _ rfl _ _ rfl rfl _ _ HR.out ?_)
    go_ret
    exact ⟨_, rfl, HF.out, HB.out⟩
def slR (w : World) (l : List ByteArray) (cs : List Value) : Prop := ∃ o c, cs = [.slice o l.length c] ∧ l.length ≤ maxLen ∧ RowOf (fun _ => True) w strR 1 o l
theorem sum_succ (ls : List (List ByteArray)) (i : Nat) (hi : i < ls.length) : ((ls.take (i + 1)).map List.length).sum = ((ls.take i).map List.length).sum + ls[i].length := by
  rw [List.take_succ_eq_append_getElem hi, List.map_append, List.sum_append]
  simp
theorem sum_le (ls : List (List ByteArray)) : ∀ i, ((ls.take i).map List.length).sum ≤ (ls.map List.length).sum := by
  induction ls with
  | nil => intro i; simp
  | cons x r ih =>
    intro i
    cases i with
    | zero => simp
    | succ i =>
      have := ih i
      simp only [List.take_succ_cons, List.map_cons, List.sum_cons]
      omega
set_option maxHeartbeats 1000000 in
set_option maxRecDepth 100000 in
theorem concat_any (ls : List (List ByteArray)) (o : Option Addr) (c : Nat) (w : World) (h : RowOf (fun _ => True) w (slR w) 1 o ls) (hl : ls.length ≤ 100) (hs : (ls.map List.length).sum ≤ 50000000) :
    Calls Tryz.prog 82 #[.slice o ls.length c] w fun e w' => ∃ v l, e = .returned v ∧ NRow w.heap.size w' v l ∧ l.length ≤ 50000000 ∧ Below w.heap.size w w' := by
  have H := hide h
  clear h
  go_enter Tryz.func82, Tryz.ntmps82
  go_wp2
  go_loop [3, 11] (fun t3 t11 => ∃ i : Nat, i ≤ ls.length ∧ t11 = .int .i64 i ∧ t3 = .int .i64 (((ls.take i).map List.length).sum : Nat)) (fun _ t11 => ls.length - (intOf t11).toNat)
  case atStart => exact ⟨0, Nat.zero_le _, rfl, rfl⟩
  case round =>
    obtain ⟨i, hi, rfl, rfl⟩ := hrel
    have hle := sum_le ls i
    by_cases hlt : i < ls.length
    · have hne : ls ≠ [] := by intro e; rw [e] at hlt; simp at hlt
      obtain ⟨b, off, eo, -, -, hcs⟩ := H.out hne
      subst eo
      obtain ⟨_, -, hkey, o1, c1, rfl, hml, -⟩ := hcs i _ (List.getElem?_eq_getElem hlt)
      have q0 := hkey 0 _ rfl
      rw [Nat.mul_one, Nat.add_zero] at q0
      have hsum := sum_succ ls i hlt
      have hle2 := sum_le ls (i + 1)
      generalize hn : ls[i].length = n at q0 hsum hml
      generalize hS : ((ls.take i).map List.length).sum = S at hsum hle ⊢
      generalize hS2 : ((ls.take (i + 1)).map List.length).sum = S2 at hsum hle2
      have HS2 := hide hS2
      have hng : ¬ ((S : Int) + (n : Int) < 0) := by omega
      clear hcs hne hkey hS hS2 hn
      go_wp2
      go_round
      case rel => exact ⟨i + 1, by omega, by go_num, by rw [HS2.out]; go_num⟩
      case measure => simp [intOf]; omega
    · have hie : i = ls.length := by omega
      subst hie
      rw [List.take_length] at hle ⊢
      generalize hS : (ls.map List.length).sum = S at hs hle ⊢
      have HS := hide hS
      clear hS
      go_wp2_with fail
      refine (grow_any S w (by omega)).mono ?_
      rintro e w1 ⟨v1, rfl, hn1, hb1⟩
      have HN1 := hide hn1
      have HB1 := hide hb1
      clear hn1 hb1
      go_wp2
      go_loopw [6, 27] (fun t6 t27 wr => ∃ (i : Nat) (l : List ByteArray), i ≤ ls.length ∧ t27 = .int .i64 i ∧ NRow w.heap.size wr t6 l ∧ l.length = ((ls.take i).map List.length).sum ∧ Below w.heap.size w wr) (fun _ t27 _ => ls.length - (intOf t27).toNat)
      case atStart => exact ⟨0, [], Nat.zero_le _, rfl, HN1.out, rfl, HB1.out⟩
      case round =>
        obtain ⟨i, l, hi, rfl, hn, hlen, hb⟩ := hrel
        have hle3 := sum_le ls i
        rw [HS.out] at hle3
        by_cases hlt : i < ls.length
        · have hne : ls ≠ [] := by intro e; rw [e] at hlt; simp at hlt
          obtain ⟨b, off, eo, -, hblt, hcs⟩ := H.out hne
          subst eo
          obtain ⟨_, -, hkey, o1, c1, rfl, hml, hrow⟩ := hcs i _ (List.getElem?_eq_getElem hlt)
          have q0 := hkey 0 _ rfl
          rw [Nat.mul_one, Nat.add_zero] at q0
          have q1 := (hb.cell (p := ⟨b, _, none⟩) hblt).trans q0
          have hsum := sum_succ ls i hlt
          have hle2 := sum_le ls (i + 1)
          rw [HS.out] at hle2
          obtain ⟨v2, w2, hr2, hn2, hg2, -⟩ := hn.app hb.size c1 (hrow.later hb fun _ _ h => h) (by omega) 27
          have HR2 := hide hr2
          have HN2 := hide hn2
          have HL2 : Hid ((l ++ ls[i]).length = ((ls.take (i + 1)).map List.length).sum) := by
            show (l ++ ls[i]).length = _
            rw [List.length_append, hsum, hlen]
          have HB2 : Hid (Below w.heap.size w w2) := hb.trans (below_grown hg2 hb.size fun k hk => (hn.lt k hk).2)
          clear hn hlen hb hcs hne hkey hrow hr2 hn2 hg2 q0 hsum hle2 hle3
          go_wp2_with (at_builtin; refine Lib.wpList_append_run _ rfl _ _ _ _ rfl _ _ rfl rfl _ _ HR2.out ?_)
          go_roundw
          case rel => exact ⟨i + 1, _, by omega, by go_num, HN2.out, HL2.out, HB2.out⟩
          case measure => simp [intOf]; omega
        · have HN := hide hn
          have HB := hide hb
          clear hn hb
          go_wp2
          go_ret
          exact ⟨_, l, rfl, HN.out, by omega, HB.out⟩
set_option maxHeartbeats 1000000 in
set_option maxRecDepth 100000 in
theorem sorted_any (ls : List (List ByteArray)) (o : Option Addr) (c : Nat) (w : World) (h : RowOf (fun _ => True) w (slR w) 1 o ls) (hl : ls.length ≤ 100) (hs : (ls.map List.length).sum ≤ 50000000) :
    Calls Tryz.prog 68 #[.slice o ls.length c] w fun e w' => ∃ o' n' c', e = .returned (.slice o' n' c') ∧ Below w.heap.size w w' := by
  have H := hide h
  clear h
  go_enter Tryz.func68, Tryz.ntmps68
  go_wp2_with fail
  refine (concat_any ls o c w H.out hl hs).mono ?_
  rintro e w1 ⟨v, l, rfl, hn, hlen, hb⟩
  obtain ⟨o1, c1, rfl, -, -⟩ := hn.rowOf
  have HN := hide hn
  have HB := hide hb
  clear hn hb
  go_wp2_with fail
  refine (sort_any HN.out HB.out.size (by omega)).mono ?_
  rintro e w2 ⟨rfl, hb⟩
  have HB2 := hide (HB.out.trans hb)
  clear hb
  go_wp2
  go_ret
  exact ⟨_, _, _, rfl, HB2.out⟩
theorem de_size {K : Nat → Prop} {w : World} {h : Nat} {d : Tr} {cs : List Value} (hr : (reads K w h).de d cs) : d.s.size ≤ maxLen := by
  cases h with
  | zero => exact hr.elim
  | succ h =>
    obtain ⟨-, -, -, e, o1, c1, ce, o2, c2, -, -, h2, -⟩ := hr
    exact h2
set_option maxHeartbeats 1000000 in
set_option maxRecDepth 100000 in
theorem namesOfDecs_any {K : Nat → Prop} {h : Nat} (xs : List Tr) (o : Option Addr) (c : Nat) (w : World) (hx : RowOf K w (reads K w h).de 9 o xs) (hl : xs.length ≤ 10000000) :
    Calls Tryz.prog 69 #[.slice o xs.length c] w fun e w' => ∃ v l, e = .returned v ∧ NRow w.heap.size w' v l ∧ l.length = xs.length ∧ Below w.heap.size w w' := by
  have H := hide hx
  have HB0 : Hid (Below w.heap.size w (w.alloc (.cells #[] 9))) := (Below.refl _ w).alloc (Nat.le_refl _) _
  have HN0 := hide (NRow.empty w)
  clear hx
  go_enter Tryz.func69, Tryz.ntmps69
  go_wp2
  go_loopw [3, 9] (fun t3 t9 wr => ∃ (i : Nat) (l : List ByteArray), i ≤ xs.length ∧ t9 = .int .i64 i ∧ NRow w.heap.size wr t3 l ∧ l.length = i ∧ Below w.heap.size w wr) (fun _ t9 _ => xs.length - (intOf t9).toNat)
  case atStart => exact ⟨0, [], Nat.zero_le _, rfl, HN0.out, rfl, HB0.out⟩
  case round =>
    obtain ⟨i, l, hi, rfl, hn, hlen, hb⟩ := hrel
    by_cases hlt : i < xs.length
    · have hne : xs ≠ [] := by intro e; rw [e] at hlt; simp at hlt
      obtain ⟨b, off, eo, -, hblt, hcs⟩ := H.out hne
      subst eo
      obtain ⟨cs, hcl, hkey, hr⟩ := hcs i _ (List.getElem?_eq_getElem hlt)
      generalize xs[i] = d at hr
      have hsz : d.s.size ≤ maxLen := de_size hr
      obtain ⟨y, p0, e0, p1, e1, p2, e2, p3, e3, p4, e4, rfl⟩ := de_form hr
      have p : ∀ j u, [.string d.s, .slice p0 d.ss.length e0, .int .i64 y.k, .string y.s, .int .i64 y.n, .slice p1 y.l.length e1, .slice p2 y.ds.length e2, .slice p3 y.al.length e3, .slice p4 d.ds.length e4][j]? = some u → wr.cell? ⟨b, off + i * 9 + j, none⟩ = some u := fun j u hu => (hb.cell (p := ⟨b, _, none⟩) hblt).trans (hkey j u hu)
      have q0 := p 0 _ rfl
      have q1 := p 1 _ rfl
      have q2 := p 2 _ rfl
      have q3 := p 3 _ rfl
      have q4 := p 4 _ rfl
      have q5 := p 5 _ rfl
      have q6 := p 6 _ rfl
      have q7 := p 7 _ rfl
      have q8 := p 8 _ rfl
      rw [Nat.add_zero] at q0
      have hB1 : Below wr.heap.size wr ((wr.alloc (.cells #[.string d.s, .slice p0 d.ss.length e0, .int .i64 y.k, .string y.s, .int .i64 y.n, .slice p1 y.l.length e1, .slice p2 y.ds.length e2, .slice p3 y.al.length e3, .slice p4 d.ds.length e4] 49)).alloc (.cells #[.string d.s] 9)) := ((Below.refl _ wr).alloc (Nat.le_refl _) _).alloc (by simp) _
      obtain ⟨v2, w2, hr2, hn2, hg2, -⟩ := (hn.later hB1).app (Nat.le_trans hb.size hB1.size) 1 (one_row (heap_alloc_new (wr.alloc (.cells #[.string d.s, .slice p0 d.ss.length e0, .int .i64 y.k, .string y.s, .int .i64 y.n, .slice p1 y.l.length e1, .slice p2 y.ds.length e2, .slice p3 y.al.length e3, .slice p4 d.ds.length e4] 49)) (.cells #[.string d.s] 9)) hsz) (by simp only [List.length_singleton]; omega) 27
      rw [List.length_singleton, show (wr.alloc (.cells #[.string d.s, .slice p0 d.ss.length e0, .int .i64 y.k, .string y.s, .int .i64 y.n, .slice p1 y.l.length e1, .slice p2 y.ds.length e2, .slice p3 y.al.length e3, .slice p4 d.ds.length e4] 49)).heap.size = wr.heap.size + 1 by simp] at hr2
      have HR2 := hide hr2
      have HN2 := hide hn2
      have HB2 : Hid (Below w.heap.size w w2) := hb.trans ((hB1.mono hb.size).trans (below_grown hg2 (Nat.le_trans hb.size hB1.size) fun k hk => ((hn.later hB1).lt k hk).2))
      have hlen2 : (l ++ [d.s]).length = i + 1 := by rw [List.length_append, hlen]; rfl
      have HL2 := hide hlen2
      clear hn hlen hb hcs hne hkey hr2 hn2 hg2 hB1 p hr hsz hlen2 hcl
      go_wp2_with (at_builtin; refine Lib.wpList_append_run _ rfl _ _ _ _ rfl _ _ rfl rfl _ _ HR2.out ?_)
      go_roundw
      case rel => exact ⟨i + 1, _, by omega, by go_num, HN2.out, HL2.out, HB2.out⟩
      case measure => simp [intOf]; omega
    · have HN := hide hn
      have HB := hide hb
      clear hn hb
      go_wp2
      go_ret
      exact ⟨_, l, rfl, HN.out, by omega, HB.out⟩
end Go.Proofs.YtihjpkldefllgakGreat.Nm
