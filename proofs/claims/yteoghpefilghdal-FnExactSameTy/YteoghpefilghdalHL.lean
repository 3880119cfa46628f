/- putAll at held's three pairs, of the whole that is held (made by genML.py). -/
import Derived.Test.YteoghpefilghdalGF
import Derived.Test.YteoghpefilghdalHK
namespace Go.Proofs.Yteoghpefilghdal
open Go.ChangeShapes Go.WideShapes Go.ChangeAt Go.RowKit

def blkOf (o : Option Addr) : Nat := (o.getD ⟨0, 0, none⟩).block
def offOf (o : Option Addr) : Nat := (o.getD ⟨0, 0, none⟩).off
/-- What two rows put, as far as they are as long. -/
def puts (ks : List (Addr × Addr)) (oa ob : Option Addr) (sz n m : Nat) : List (Addr × Addr) := if n = m then adds ks (places (blkOf oa) (offOf oa) (blkOf ob) (offOf ob) sz n) else []
theorem upd_self {α : Type} (f : Nat → α) (i : Nat) : upd f i (f i) = f := by
  funext j
  unfold upd
  split
  · subst_vars
    rfl
  · rfl

theorem held_putAll_ex (oa ob : Option Addr) (ca cb g : Nat) (xs ys : List Tr) (w : World) (K : Nat → Prop) (ls ks : Nat → List (Addr × Addr)) {R R' : Tr → List Value → Prop} {KP : Nat → Prop} (h : HeldMem TT w K g ls ks) (hKP : ∀ b, KP b → K b) (ha : RowOf KP w R 6 oa xs) (hb : RowOf KP w R' 6 ob ys)
    (hl1 : xs.length ≤ maxLen) (hl2 : ys.length ≤ maxLen) (hp : ∀ b, KP b → PlainAt w ⟨b, 0, none⟩) (hn : (ls 0).length + xs.length ≤ 10000000) :
    Calls Try.prog 54 #[.pointer (some ⟨g, 0, none⟩), .slice oa xs.length ca, .slice ob ys.length cb] w fun e' w' => e' = .returned (.bool (decide (xs.length = ys.length))) ∧ HeldMem TT w' K g (upd ls 0 (ls 0 ++ puts (ks 0) oa ob 6 xs.length ys.length)) (upd ks 0 (ks 0 ++ puts (ks 0) oa ob 6 xs.length ys.length)) ∧ Keeps K w w' := by
  by_cases hlen : xs.length = ys.length
  · obtain ⟨c, e, vl, mo, Kx, hg, hc0, hc1, hm, hK, hback⟩ := h.at 0 (by omega)
    have hoa : xs.length ≠ 0 → oa = some ⟨blkOf oa, offOf oa, none⟩ ∧ ob = some ⟨blkOf ob, offOf ob, none⟩ ∧ KP (blkOf oa) ∧ KP (blkOf ob) := by
      intro hne
      obtain ⟨b1, o1, rfl, k1, -, -⟩ := ha (fun e => hne (by rw [e]; rfl))
      obtain ⟨b2, o2, rfl, k2, -, -⟩ := hb (fun e => hne (by rw [hlen, e]; rfl))
      exact ⟨rfl, rfl, k1, k2⟩
    have hcall := PE.putAll_yes g 0 xs.length ca cb (blkOf oa) (offOf oa) (blkOf ob) (offOf ob) oa ob w c e Kx vl mo (ls 0) (ks 0) hg hc0 hc1 hm (fun hne => ⟨(hoa hne).1, (hoa hne).2.1, hK _ (hKP _ (hoa hne).2.2.1), hK _ (hKP _ (hoa hne).2.2.2), hp _ (hoa hne).2.2.1, hp _ (hoa hne).2.2.2⟩) hn
    rw [← hlen]
    refine hcall.mono ?_
    rintro e' w' ⟨rfl, hnow⟩
    have hpu : puts (ks 0) oa ob 6 xs.length xs.length = adds (ks 0) (places (blkOf oa) (offOf oa) (blkOf ob) (offOf ob) 6 xs.length) := if_pos rfl
    rw [hpu]
    refine ⟨by simp, hback w' _ _ hnow fun l hl => ?_⟩
    rw [List.mem_append] at hl
    rcases hl with hl | hl
    · obtain ⟨c2, e2, v, mo2, -, H⟩ := h
      exact ⟨((H.mem 0 (by omega)).keys l hl).1.1, ((H.mem 0 (by omega)).keys l hl).2.1⟩
    · have hin := adds_sub _ _ l hl
      have hne : xs.length ≠ 0 := by
        intro e0
        rw [e0] at hin
        cases hin
      obtain ⟨e1, e2⟩ := places_in hin
      rw [e1, e2]
      exact ⟨hKP _ (hoa hne).2.2.1, hKP _ (hoa hne).2.2.2⟩
  · refine (PE.putAll_no g 0 xs.length ys.length ca cb oa ob w hl1 hl2 hlen).mono ?_
    rintro e' w' ⟨rfl, rfl⟩
    have hpu : puts (ks 0) oa ob 6 xs.length ys.length = [] := if_neg hlen
    rw [hpu, List.append_nil, List.append_nil, upd_self, upd_self]
    exact ⟨by simp [hlen], h, Keeps.refl _ _⟩

theorem held_putAll_de (oa ob : Option Addr) (ca cb g : Nat) (xs ys : List Tr) (w : World) (K : Nat → Prop) (ls ks : Nat → List (Addr × Addr)) {R R' : Tr → List Value → Prop} {KP : Nat → Prop} (h : HeldMem TT w K g ls ks) (hKP : ∀ b, KP b → K b) (ha : RowOf KP w R 9 oa xs) (hb : RowOf KP w R' 9 ob ys)
    (hl1 : xs.length ≤ maxLen) (hl2 : ys.length ≤ maxLen) (hp : ∀ b, KP b → PlainAt w ⟨b, 0, none⟩) (hn : (ls 1).length + xs.length ≤ 10000000) :
    Calls Try.prog 55 #[.pointer (some ⟨g, 2, none⟩), .slice oa xs.length ca, .slice ob ys.length cb] w fun e' w' => e' = .returned (.bool (decide (xs.length = ys.length))) ∧ HeldMem TT w' K g (upd ls 1 (ls 1 ++ puts (ks 1) oa ob 9 xs.length ys.length)) (upd ks 1 (ks 1 ++ puts (ks 1) oa ob 9 xs.length ys.length)) ∧ Keeps K w w' := by
  by_cases hlen : xs.length = ys.length
  · obtain ⟨c, e, vl, mo, Kx, hg, hc0, hc1, hm, hK, hback⟩ := h.at 1 (by omega)
    have hoa : xs.length ≠ 0 → oa = some ⟨blkOf oa, offOf oa, none⟩ ∧ ob = some ⟨blkOf ob, offOf ob, none⟩ ∧ KP (blkOf oa) ∧ KP (blkOf ob) := by
      intro hne
      obtain ⟨b1, o1, rfl, k1, -, -⟩ := ha (fun e => hne (by rw [e]; rfl))
      obtain ⟨b2, o2, rfl, k2, -, -⟩ := hb (fun e => hne (by rw [hlen, e]; rfl))
      exact ⟨rfl, rfl, k1, k2⟩
    have hcall := PD.putAll_yes g 2 xs.length ca cb (blkOf oa) (offOf oa) (blkOf ob) (offOf ob) oa ob w c e Kx vl mo (ls 1) (ks 1) hg hc0 hc1 hm (fun hne => ⟨(hoa hne).1, (hoa hne).2.1, hK _ (hKP _ (hoa hne).2.2.1), hK _ (hKP _ (hoa hne).2.2.2), hp _ (hoa hne).2.2.1, hp _ (hoa hne).2.2.2⟩) hn
    rw [← hlen]
    refine hcall.mono ?_
    rintro e' w' ⟨rfl, hnow⟩
    have hpu : puts (ks 1) oa ob 9 xs.length xs.length = adds (ks 1) (places (blkOf oa) (offOf oa) (blkOf ob) (offOf ob) 9 xs.length) := if_pos rfl
    rw [hpu]
    refine ⟨by simp, hback w' _ _ hnow fun l hl => ?_⟩
    rw [List.mem_append] at hl
    rcases hl with hl | hl
    · obtain ⟨c2, e2, v, mo2, -, H⟩ := h
      exact ⟨((H.mem 1 (by omega)).keys l hl).1.1, ((H.mem 1 (by omega)).keys l hl).2.1⟩
    · have hin := adds_sub _ _ l hl
      have hne : xs.length ≠ 0 := by
        intro e0
        rw [e0] at hin
        cases hin
      obtain ⟨e1, e2⟩ := places_in hin
      rw [e1, e2]
      exact ⟨hKP _ (hoa hne).2.2.1, hKP _ (hoa hne).2.2.2⟩
  · refine (PD.putAll_no g 2 xs.length ys.length ca cb oa ob w hl1 hl2 hlen).mono ?_
    rintro e' w' ⟨rfl, rfl⟩
    have hpu : puts (ks 1) oa ob 9 xs.length ys.length = [] := if_neg hlen
    rw [hpu, List.append_nil, List.append_nil, upd_self, upd_self]
    exact ⟨by simp [hlen], h, Keeps.refl _ _⟩

theorem held_putAll_al (oa ob : Option Addr) (ca cb g : Nat) (xs ys : List Tr) (w : World) (K : Nat → Prop) (ls ks : Nat → List (Addr × Addr)) {R R' : Tr → List Value → Prop} {KP : Nat → Prop} (h : HeldMem TT w K g ls ks) (hKP : ∀ b, KP b → K b) (ha : RowOf KP w R 8 oa xs) (hb : RowOf KP w R' 8 ob ys)
    (hl1 : xs.length ≤ maxLen) (hl2 : ys.length ≤ maxLen) (hp : ∀ b, KP b → PlainAt w ⟨b, 0, none⟩) (hn : (ls 2).length + xs.length ≤ 10000000) :
    Calls Try.prog 56 #[.pointer (some ⟨g, 4, none⟩), .slice oa xs.length ca, .slice ob ys.length cb] w fun e' w' => e' = .returned (.bool (decide (xs.length = ys.length))) ∧ HeldMem TT w' K g (upd ls 2 (ls 2 ++ puts (ks 2) oa ob 8 xs.length ys.length)) (upd ks 2 (ks 2 ++ puts (ks 2) oa ob 8 xs.length ys.length)) ∧ Keeps K w w' := by
  by_cases hlen : xs.length = ys.length
  · obtain ⟨c, e, vl, mo, Kx, hg, hc0, hc1, hm, hK, hback⟩ := h.at 2 (by omega)
    have hoa : xs.length ≠ 0 → oa = some ⟨blkOf oa, offOf oa, none⟩ ∧ ob = some ⟨blkOf ob, offOf ob, none⟩ ∧ KP (blkOf oa) ∧ KP (blkOf ob) := by
      intro hne
      obtain ⟨b1, o1, rfl, k1, -, -⟩ := ha (fun e => hne (by rw [e]; rfl))
      obtain ⟨b2, o2, rfl, k2, -, -⟩ := hb (fun e => hne (by rw [hlen, e]; rfl))
      exact ⟨rfl, rfl, k1, k2⟩
    have hcall := PA.putAll_yes g 4 xs.length ca cb (blkOf oa) (offOf oa) (blkOf ob) (offOf ob) oa ob w c e Kx vl mo (ls 2) (ks 2) hg hc0 hc1 hm (fun hne => ⟨(hoa hne).1, (hoa hne).2.1, hK _ (hKP _ (hoa hne).2.2.1), hK _ (hKP _ (hoa hne).2.2.2), hp _ (hoa hne).2.2.1, hp _ (hoa hne).2.2.2⟩) hn
    rw [← hlen]
    refine hcall.mono ?_
    rintro e' w' ⟨rfl, hnow⟩
    have hpu : puts (ks 2) oa ob 8 xs.length xs.length = adds (ks 2) (places (blkOf oa) (offOf oa) (blkOf ob) (offOf ob) 8 xs.length) := if_pos rfl
    rw [hpu]
    refine ⟨by simp, hback w' _ _ hnow fun l hl => ?_⟩
    rw [List.mem_append] at hl
    rcases hl with hl | hl
    · obtain ⟨c2, e2, v, mo2, -, H⟩ := h
      exact ⟨((H.mem 2 (by omega)).keys l hl).1.1, ((H.mem 2 (by omega)).keys l hl).2.1⟩
    · have hin := adds_sub _ _ l hl
      have hne : xs.length ≠ 0 := by
        intro e0
        rw [e0] at hin
        cases hin
      obtain ⟨e1, e2⟩ := places_in hin
      rw [e1, e2]
      exact ⟨hKP _ (hoa hne).2.2.1, hKP _ (hoa hne).2.2.2⟩
  · refine (PA.putAll_no g 4 xs.length ys.length ca cb oa ob w hl1 hl2 hlen).mono ?_
    rintro e' w' ⟨rfl, rfl⟩
    have hpu : puts (ks 2) oa ob 8 xs.length ys.length = [] := if_neg hlen
    rw [hpu, List.append_nil, List.append_nil, upd_self, upd_self]
    exact ⟨by simp [hlen], h, Keeps.refl _ _⟩

theorem held_putAll_ty (oa ob : Option Addr) (ca cb g : Nat) (xs ys : List Tr) (w : World) (K : Nat → Prop) (ls ks : Nat → List (Addr × Addr)) {R R' : Tr → List Value → Prop} {KP : Nat → Prop} (h : HeldMem TT w K g ls ks) (hKP : ∀ b, KP b → K b) (ha : RowOf KP w R 4 oa xs) (hb : RowOf KP w R' 4 ob ys)
    (hl1 : xs.length ≤ maxLen) (hl2 : ys.length ≤ maxLen) (hp : ∀ b, KP b → PlainAt w ⟨b, 0, none⟩) (hn : (ls 3).length + xs.length ≤ 10000000) :
    Calls Try.prog 59 #[.pointer (some ⟨g, 6, none⟩), .slice oa xs.length ca, .slice ob ys.length cb] w fun e' w' => e' = .returned (.bool (decide (xs.length = ys.length))) ∧ HeldMem TT w' K g (upd ls 3 (ls 3 ++ puts (ks 3) oa ob 4 xs.length ys.length)) (upd ks 3 (ks 3 ++ puts (ks 3) oa ob 4 xs.length ys.length)) ∧ Keeps K w w' := by
  by_cases hlen : xs.length = ys.length
  · obtain ⟨c, e, vl, mo, Kx, hg, hc0, hc1, hm, hK, hback⟩ := h.at 3 (by omega)
    have hoa : xs.length ≠ 0 → oa = some ⟨blkOf oa, offOf oa, none⟩ ∧ ob = some ⟨blkOf ob, offOf ob, none⟩ ∧ KP (blkOf oa) ∧ KP (blkOf ob) := by
      intro hne
      obtain ⟨b1, o1, rfl, k1, -, -⟩ := ha (fun e => hne (by rw [e]; rfl))
      obtain ⟨b2, o2, rfl, k2, -, -⟩ := hb (fun e => hne (by rw [hlen, e]; rfl))
      exact ⟨rfl, rfl, k1, k2⟩
    have hcall := PT.putAll_yes g 6 xs.length ca cb (blkOf oa) (offOf oa) (blkOf ob) (offOf ob) oa ob w c e Kx vl mo (ls 3) (ks 3) hg hc0 hc1 hm (fun hne => ⟨(hoa hne).1, (hoa hne).2.1, hK _ (hKP _ (hoa hne).2.2.1), hK _ (hKP _ (hoa hne).2.2.2), hp _ (hoa hne).2.2.1, hp _ (hoa hne).2.2.2⟩) hn
    rw [← hlen]
    refine hcall.mono ?_
    rintro e' w' ⟨rfl, hnow⟩
    have hpu : puts (ks 3) oa ob 4 xs.length xs.length = adds (ks 3) (places (blkOf oa) (offOf oa) (blkOf ob) (offOf ob) 4 xs.length) := if_pos rfl
    rw [hpu]
    refine ⟨by simp, hback w' _ _ hnow fun l hl => ?_⟩
    rw [List.mem_append] at hl
    rcases hl with hl | hl
    · obtain ⟨c2, e2, v, mo2, -, H⟩ := h
      exact ⟨((H.mem 3 (by omega)).keys l hl).1.1, ((H.mem 3 (by omega)).keys l hl).2.1⟩
    · have hin := adds_sub _ _ l hl
      have hne : xs.length ≠ 0 := by
        intro e0
        rw [e0] at hin
        cases hin
      obtain ⟨e1, e2⟩ := places_in hin
      rw [e1, e2]
      exact ⟨hKP _ (hoa hne).2.2.1, hKP _ (hoa hne).2.2.2⟩
  · refine (PT.putAll_no g 6 xs.length ys.length ca cb oa ob w hl1 hl2 hlen).mono ?_
    rintro e' w' ⟨rfl, rfl⟩
    have hpu : puts (ks 3) oa ob 4 xs.length ys.length = [] := if_neg hlen
    rw [hpu, List.append_nil, List.append_nil, upd_self, upd_self]
    exact ⟨by simp [hlen], h, Keeps.refl _ _⟩
end Go.Proofs.Yteoghpefilghdal
