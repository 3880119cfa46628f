/- What comes to a map of counts; the program's addDecs, note. -/
import Derived.Test.YtegcebeaelpjhajNC
import Derived.Test.YtegcebeaelpjhajXA
namespace Go.Proofs.Ytegcebeaelpjhaj
open Go.ChangeShapes Go.WideShapes Go.ChangeAt Go.RowKit

/-- What comes to a map of counts. -/
structure Plus (D D' l : List (Addr × Nat)) : Prop where
  sums : ∀ f, wsum f D' = wsum f D + wsum f l
  keys : ∀ x, x ∈ keysOf D' ↔ x ∈ keysOf D ∨ x ∈ keysOf l
theorem wsum_app (f : Addr → Nat) (l r : List (Addr × Nat)) : wsum f (l ++ r) = wsum f l + wsum f r := by simp [wsum]
theorem wsum_nil (f : Addr → Nat) : wsum f [] = 0 := rfl
theorem wsum_one (f : Addr → Nat) (a : Addr) (n : Nat) : wsum f [(a, n)] = n * f a := by simp [wsum]
theorem keys_app (l r : List (Addr × Nat)) (x : Addr) : x ∈ keysOf (l ++ r) ↔ x ∈ keysOf l ∨ x ∈ keysOf r := by simp [keysOf]
theorem Plus.refl (D : List (Addr × Nat)) : Plus D D [] := ⟨fun f => by simp [wsum], fun x => by simp [keysOf]⟩
theorem Plus.trans {D D' D'' l r : List (Addr × Nat)} (h : Plus D D' l) (k : Plus D' D'' r) : Plus D D'' (l ++ r) :=
  ⟨fun f => by rw [k.sums, h.sums, wsum_app]; omega, fun x => by rw [k.keys, h.keys, keys_app, or_assoc]⟩
theorem Plus.add (D : List (Addr × Nat)) (a : Addr) (n : Nat) : Plus D (setA D a (getA D a + n)) [(a, n)] :=
  ⟨fun f => by rw [wsum_add, wsum_one], fun x => by rw [setA_mem]; simp [keysOf]⟩
theorem getA_le (l : List (Addr × Nat)) (a : Addr) : getA l a ≤ wsum (fun _ => 1) l := by
  have key : ∀ (l : List (Addr × Nat)) (i : Nat), ((findA l a i).map Prod.snd).getD 0 ≤ wsum (fun _ => 1) l := by
    intro l
    induction l with
    | nil => intro i; exact Nat.zero_le _
    | cons p r ih =>
      intro i
      have h1 := ih (i + 1)
      by_cases hc : a = p.1
      · subst hc
        simp [findA, wsum]
      · simp only [findA, hc, if_false, wsum, List.map_cons, List.sum_cons] at h1 ⊢
        omega
  exact key l 0
def bOf (o : Option Addr) : Nat := (o.getD ⟨0, 0, none⟩).block
def fOf (o : Option Addr) : Nat := (o.getD ⟨0, 0, none⟩).off
def rowA (o : Option Addr) (sz d n : Nat) : List Addr := (List.range n).map fun i => ⟨bOf o, fOf o + i * sz + d, none⟩
theorem rowA_succ (o : Option Addr) (sz d n : Nat) : rowA o sz d (n + 1) = rowA o sz d n ++ [⟨bOf o, fOf o + n * sz + d, none⟩] := by simp [rowA, List.range_succ]
def times (p : Nat) (l : List Addr) : List (Addr × Nat) := l.map fun a => (a, p)
theorem times_app (p : Nat) (l r : List Addr) : times p (l ++ r) = times p l ++ times p r := by simp [times]
theorem wsum_times (f : Addr → Nat) (p : Nat) (l : List Addr) : wsum f (times p l) = p * (l.map f).sum := by
  induction l with
  | nil => rfl
  | cons a r ih =>
    have h1 : wsum f (times p (a :: r)) = p * f a + wsum f (times p r) := rfl
    rw [h1, ih, List.map_cons, List.sum_cons, Nat.mul_add]
theorem keys_times (p : Nat) (l : List Addr) : keysOf (times p l) = l := by simp [keysOf, times, Function.comp_def]
theorem wsum_ones (p : Nat) (l : List Addr) : wsum (fun _ => 1) (times p l) = p * l.length := by
  rw [wsum_times]
  congr 1
  induction l with
  | nil => rfl
  | cons a r ih => rw [List.map_cons, List.sum_cons, ih, List.length_cons]; omega

set_option maxHeartbeats 1000000 in
set_option maxRecDepth 100000 in
theorem addDecs_any (w : World) (KP : Nat → Prop) (v1 : Value) (m2 : Nat) (D : List (Addr × Nat)) (o : Option Addr) (c p : Nat) (xs : List Tr) {R : Tr → List Value → Prop} (h2 : PMap w m2 D) (hx : RowOf KP w R 9 o xs) (hl : xs.length ≤ maxLen) (hp : ∀ b, KP b → PlainAt w ⟨b, 0, none⟩) (hkm : ¬ KP m2) (hk : ∀ a ∈ keysOf D, KP a.block) (hn : wsum (fun _ => 1) D + p * xs.length ≤ 4611686018427387904) :
    Calls Try.prog 73 #[.agg #[v1, .map (some m2)], .slice o xs.length c, .int .i64 (p : Int)] w fun e w' => e = .returned (.tuple #[]) ∧ ∃ D', PMap w' m2 D' ∧ But m2 w w' ∧ Plus D D' (times p (rowA o 9 0 xs.length)) := by
  have ml : xs.length ≤ 9223372036854775807 := hl
  have hm2 := h2.lt
  generalize hV : w.alloc (.cells #[v1, .map (some m2)] 97) = V
  have hbV : Below w.heap.size w V := by rw [← hV]; exact (Below.refl _ w).alloc (Nat.le_refl _) _
  have hsV : V.heap.size = w.heap.size + 1 := by rw [← hV]; simp
  have hrV : V.heap[w.heap.size]? = some (.cells #[v1, .map (some m2)] 97 (0, 0)) := by rw [← hV]; exact heap_alloc_new w _
  have HP : Hid (∀ b, KP b → b < w.heap.size ∧ PlainAt V ⟨b, 0, none⟩) := fun b hb => by
    obtain ⟨c, e, h⟩ := hp b hb
    exact ⟨heap_lt h, c, e, (hbV.block b (heap_lt h)).trans h⟩
  have H2 := hide (h2.keep (hbV.block m2 hm2))
  have HX := hide hx
  have HBV := hide hbV
  have HRV := hide hrV
  have HKM := hide hkm
  have HK := hide hk
  have HN := hide hn
  clear hl h2 hx hp hkm hk hbV hrV hn
  go_enter Try.func73, Try.ntmps73
  go_wp2
  go_loopw [9] (fun t wr => ∃ (i : Nat) (D' : List (Addr × Nat)), i ≤ xs.length ∧ t = .int .i64 i ∧ PMap wr m2 D' ∧ But m2 V wr ∧ Plus D D' (times p (rowA o 9 0 i))) (fun t _ => xs.length - (intOf t).toNat)
  case atStart => exact ⟨0, D, Nat.zero_le _, rfl, H2.out, But.refl _ _, Plus.refl D⟩
  case round =>
    obtain ⟨i, D', hi, rfl, hm, hb, hpl⟩ := hrel
    have HM := hide hm
    have HB := hide hb
    have HPL := hide hpl
    clear hm hb hpl
    by_cases hlt : i < xs.length
    · have hne : xs ≠ [] := by intro e; rw [e] at hlt; simp at hlt
      obtain ⟨b, off, rfl, kb, hbl, -⟩ := HX.out hne
      have hkeys : ∀ a ∈ keysOf D', KP a.block := fun a ha => by
        rcases (HPL.out.keys a).1 ha with h | h
        · exact HK.out a h
        · rw [keys_times] at h
          obtain ⟨j, -, rfl⟩ := List.mem_map.1 h
          exact kb
      have hplain : ∀ a : Addr, KP a.block → PlainAt wr.drew a := fun a ha => by
        obtain ⟨h1, c, e, h2⟩ := HP.out a.block ha
        exact ⟨c, e, (HB.out.block a.block ⟨by omega, fun e => HKM.out (e ▸ ha)⟩).trans h2⟩
      have hlook := PMap.look (w := wr.drew) Try.underlying95 ptr_dec zero_int HM.out (a := ⟨b, off + i * 9, none⟩) (hplain _ kb) (fun a ha => hplain a (hkeys a ha))
      obtain ⟨w2, hup, hm1, hbu, hs2⟩ := PMap.update (w := wr.drew) Try.underlying95 ptr_dec HM.out (a := ⟨b, off + i * 9, none⟩) (getA D' ⟨b, off + i * 9, none⟩ + p) (hplain _ kb) (fun a ha => hplain a (hkeys a ha))
      simp only [Int.natCast_add] at hup
      have hbound : Hid (getA D' ⟨b, off + i * 9, none⟩ + p ≤ 4611686018427387904) := by
        have h1 := getA_le D' ⟨b, off + i * 9, none⟩
        have h3 := HPL.out.sums (fun _ => 1)
        rw [wsum_ones] at h3
        have h4 : (rowA (some ⟨b, off, none⟩) 9 0 i).length = i := by simp [rowA]
        rw [h4] at h3
        have h5 : p * i + p ≤ p * xs.length := by
          have h6 : p * (i + 1) ≤ p * xs.length := Nat.mul_le_mul_left p (by omega)
          rw [Nat.mul_add, Nat.mul_one] at h6
          exact h6
        have h7 := HN.out
        show getA D' ⟨b, off + i * 9, none⟩ + p ≤ 4611686018427387904
        omega
      have HM1 := hide hm1
      have HBU := hide (HB.out.trans ((But.of (Below.refl _ wr).drew).trans hbu))
      have z0 : wr.cell? ⟨w.heap.size, 1, none⟩ = some (.map (some m2)) := by
        have h9 := (HB.out.block w.heap.size ⟨by omega, by omega⟩).trans HRV.out
        have h8 := cell_of h9 1
        simpa using h8
      generalize hG : getA D' ⟨b, off + i * 9, none⟩ = G at hlook hup hbound
      have HG := hide hG
      have hlt2 : (i : Int) < xs.length := by omega
      clear hkeys hplain hm1 hbu kb hbl hne hG
      go_wp2
      go_region_with (go_at_call 42; refine (plus_any _ _ _ hbound.out).mono ?_; rintro e w' ⟨rfl, rfl⟩)
      all_goals
        go_wp2
        refine ⟨⟨i + 1, _, by omega, by go_num, HM1.out, HBU.out, ?_⟩, by simp [intOf]; omega⟩
        rw [rowA_succ, times_app, HG.out]
        exact HPL.out.trans (by rw [← HG.out]; exact Plus.add D' _ p)
    · go_wp2
      go_end0
      have hie : i = xs.length := by omega
      subst hie
      exact ⟨rfl, D', HM.out, (But.of HBV.out).trans HB.out, HPL.out⟩
end Go.Proofs.Ytegcebeaelpjhaj
