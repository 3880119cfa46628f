/- The plain steps of the program's Lex. -/
import Derived.Test.YtndlhdeipicbpaaI
namespace Go.Proofs.Ytndlhdeipicbpaa
open Go.RowKit

theorem takeWhile_get (p : UInt8 → Bool) : ∀ (l : List UInt8) (i : Nat), i < (l.takeWhile p).length → p (l.getD i 0) = true := by
  intro l
  induction l with
  | nil => intro i h; simp at h
  | cons c r ih =>
    intro i h
    rw [List.takeWhile_cons] at h
    by_cases hp : p c = true
    · rw [if_pos hp] at h
      cases i with
      | zero => exact hp
      | succ i => exact ih i (by simpa using h)
    · rw [if_neg hp] at h
      simp at h
theorem lod_ascii (c : UInt8) (h : lodB c = true) : c.toNat < 128 ∧ c ≠ 10 := by
  have hc : c.toNat < 256 := c.toNat_lt
  constructor
  · unfold lodB letB inB at h
    simp at h
    omega
  · intro e
    subst e
    revert h
    decide
theorem dig_lod (c : UInt8) (h : digB c = true) : lodB c = true := by
  unfold digB at h
  unfold lodB letB
  rw [h]
  simp
theorem mark_ascii (c : UInt8) (h : markB c = true) : c.toNat < 128 ∧ c ≠ 10 := by
  unfold markB at h
  rw [List.any_eq_true] at h
  obtain ⟨m, hm, he⟩ := h
  rw [beq_iff_eq] at he
  subst he
  revert hm
  have : ∀ m ∈ marksL, m.toNat < 128 ∧ m ≠ 10 := by decide
  exact this m
theorem two_bytes (l : List UInt8) (h : twoB l = true) : 2 ≤ l.length ∧ ∀ i, i < 2 → (l.getD i 0).toNat < 128 ∧ l.getD i 0 ≠ 10 := by
  match l, h with
  | [], h => exact absurd h (by decide)
  | [x], h => simp [twoB] at h
  | x :: y :: r, h =>
    refine ⟨by simp, fun i hi => ?_⟩
    have hxy : (x = 45 ∧ y = 62) ∨ (x = 61 ∧ y = 61) := by simpa [twoB] using h
    have hi' : i = 0 ∨ i = 1 := by omega
    rcases hxy with ⟨rfl, rfl⟩ | ⟨rfl, rfl⟩ <;> rcases hi' with rfl | rfl <;> exact ⟨by simp, by simp⟩
theorem next_bytes (l : List UInt8) (h0 : 0 < l.length) (hk : nextK l ≠ 0) : nextLen l ≤ l.length ∧ ∀ i, i < nextLen l → (l.getD i 0).toNat < 128 ∧ l.getD i 0 ≠ 10 := by
  by_cases hd : digB (l.headD 0) = true
  · rw [(nextK_dig l hd).2]
    exact ⟨takeWhile_le _ _, fun i hi => lod_ascii _ (dig_lod _ (takeWhile_get _ _ _ hi))⟩
  · by_cases ha : abcB (l.headD 0) = true
    · rw [(nextK_abc l ha).2]
      exact ⟨takeWhile_le _ _, fun i hi => lod_ascii _ (takeWhile_get _ _ _ hi)⟩
    · rw [Bool.not_eq_true] at hd ha
      by_cases ht : twoB l = true
      · rw [(nextK_two l ha hd ht).2]
        exact two_bytes l ht
      · rw [Bool.not_eq_true] at ht
        by_cases hm : markB (l.headD 0) = true
        · rw [(nextK_one l ha hd ht hm).2]
          refine ⟨h0, fun i hi => ?_⟩
          have : i = 0 := by omega
          subst this
          rw [getD_head]
          exact mark_ascii _ hm
        · rw [Bool.not_eq_true] at hm
          exact absurd (nextK_none l ha hd ht hm) hk
theorem getD_drop (L : List UInt8) (p i : Nat) : (L.drop p).getD i 0 = L.getD (p + i) 0 := by
  rw [List.getD_eq_getElem?_getD, List.getElem?_drop, List.getD_eq_getElem?_getD]
theorem get_some (L : List UInt8) (i : Nat) (h : i < L.length) : L[i]? = some (L.getD i 0) := by
  rw [List.getD_eq_getElem?_getD, List.getElem?_eq_getElem h]; rfl
theorem get_ne (L : List UInt8) (i : Nat) (c : UInt8) (h : L.getD i 0 ≠ c) (h0 : i < L.length) : L[i]? ≠ some c := by
  rw [get_some L i h0]; intro e; exact h (Option.some.inj e)

/-- What the program's loop holds to at a rune's place. -/
structure Inv (L : List UInt8) (pos dn : Nat) (ts : List TokP) : Prop where
  hp : pos ≤ L.length
  hd : dn ≤ L.length
  lex : lexAt L 0 = (lexAt L (max pos dn)).map (ts ++ ·)
  flat : ∀ i, pos ≤ i → i < dn → L[i]? ≠ some 10
  edge : (∀ i, pos ≤ i → i < dn → (L.getD i 0).toNat < 128) ∨ dn = L.length ∨ L[dn]? = some 10
  few : ts.length ≤ max pos dn
theorem map_nil (o : Option (List TokP)) : o.map ([] ++ ·) = o := by cases o <;> rfl
theorem inv_start (L : List UInt8) : Inv L 0 0 [] := ⟨Nat.zero_le _, Nat.zero_le _, (map_nil _).symm, fun i a b => by omega, Or.inl fun i a b => by omega, Nat.zero_le _⟩
theorem inv_nl {L : List UInt8} {pos dn : Nat} {ts : List TokP} (h : Inv L pos dn ts) (hp : pos < L.length) (hc : L.getD pos 0 = 10) : Inv L (pos + 1) dn ts := by
  have h10 : L[pos]? = some 10 := by rw [get_some L pos hp, hc]
  have hdn : dn ≤ pos := Nat.le_of_not_lt fun hlt => h.flat pos (Nat.le_refl _) hlt h10
  refine ⟨hp, h.hd, ?_, fun i a b => by omega, Or.inl fun i a b => by omega, ?_⟩
  · rw [h.lex, show max pos dn = pos by omega, show max (pos + 1) dn = pos + 1 by omega, lexAt_eq L pos hp, if_pos (Or.inl h10)]
  · have := h.few; omega
theorem line_nl {L : List UInt8} {pos : Nat} (hp : pos < L.length) (hc : L.getD pos 0 = 10) : lineAt L (pos + 1) = lineAt L pos + 1 ∧ begAt L (pos + 1) = pos + 1 := by
  have h10 : L[pos]? = some 10 := by rw [get_some L pos hp, hc]
  exact ⟨by rw [lineAt, if_pos h10], by rw [begAt, if_pos h10]⟩
theorem line_one {L : List UInt8} {pos : Nat} (hp : pos < L.length) (hc : L.getD pos 0 ≠ 10) : lineAt L (pos + 1) = lineAt L pos ∧ begAt L (pos + 1) = begAt L pos :=
  flat_stretch L pos 1 fun i a b => by
    have : i = pos := by omega
    subst this
    exact get_ne L i 10 hc hp
theorem inv_in {L : List UInt8} {pos dn d : Nat} {ts : List TokP} (h : Inv L pos dn ts) (hlt : pos < dn) (h1 : 1 ≤ d) (hd1 : (L.getD pos 0).toNat < 128 → d = 1) (hdn : pos + d ≤ L.length) (hb : ∀ i, 1 ≤ i → i < d → 128 ≤ (L.getD (pos + i) 0).toNat) :
    pos + d ≤ dn ∧ Inv L (pos + d) dn ts ∧ lineAt L (pos + d) = lineAt L pos ∧ begAt L (pos + d) = begAt L pos := by
  have hle : pos + d ≤ dn := by
    rcases h.edge with he | he | he
    · have := hd1 (he pos (Nat.le_refl _) hlt); omega
    · omega
    · refine Nat.le_of_not_lt fun hh => ?_
      have h2 := hb (dn - pos) (by omega) (by omega)
      rw [show pos + (dn - pos) = dn by omega] at h2
      rw [get_some L dn (by omega)] at he
      rw [Option.some.inj he] at h2
      exact absurd h2 (by decide)
  have hf := flat_stretch L pos d fun i a b => h.flat i a (by omega)
  refine ⟨hle, ⟨hdn, h.hd, ?_, fun i a b => h.flat i (by omega) b, ?_, ?_⟩, hf.1, hf.2⟩
  · rw [h.lex, show max pos dn = dn by omega, show max (pos + d) dn = dn by omega]
  · rcases h.edge with he | he | he
    · exact Or.inl fun i a b => he i (by omega) b
    · exact Or.inr (Or.inl he)
    · exact Or.inr (Or.inr he)
  · have := h.few; omega
theorem inv_blank {L : List UInt8} {pos dn : Nat} {ts : List TokP} (h : Inv L pos dn ts) (hdn : dn ≤ pos) (hp : pos < L.length) (hc : L.getD pos 0 = 32) : Inv L (pos + 1) dn ts := by
  have h32 : L[pos]? = some 32 := by rw [get_some L pos hp, hc]
  refine ⟨hp, h.hd, ?_, fun i a b => by omega, Or.inl fun i a b => by omega, ?_⟩
  · rw [h.lex, show max pos dn = pos by omega, show max (pos + 1) dn = pos + 1 by omega, lexAt_eq L pos hp, if_pos (Or.inr h32)]
  · have := h.few; omega
theorem not_blank {L : List UInt8} {pos : Nat} (hp : pos < L.length) (h1 : L.getD pos 0 ≠ 10) (h2 : L.getD pos 0 ≠ 32) : ¬ (L[pos]? = some 10 ∨ L[pos]? = some 32) := by
  intro h
  rcases h with h | h
  · exact get_ne L pos 10 h1 hp h
  · exact get_ne L pos 32 h2 hp h
theorem aside_end (L : List UInt8) (pos : Nat) (hp : pos < L.length) : pos + asideLen (L.drop pos) = L.length ∨ L[pos + asideLen (L.drop pos)]? = some 10 := by
  have key : ∀ l : List UInt8, (l.takeWhile fun c => c != 10).length = l.length ∨ l[(l.takeWhile fun c => c != 10).length]? = some 10 := by
    intro l
    induction l with
    | nil => left; rfl
    | cons c r ih =>
      rw [List.takeWhile_cons]
      by_cases hc : c = 10
      · right; simp [hc]
      · have : (c != 10) = true := by simpa using hc
        rw [if_pos this]
        rcases ih with ih | ih
        · left; simp [ih]
        · right; simpa using ih
  rcases key (L.drop pos) with k | k
  · left; unfold asideLen; rw [k, List.length_drop]; omega
  · right; rw [List.getElem?_drop] at k; exact k
theorem aside_le (L : List UInt8) (pos : Nat) (hp : pos < L.length) : pos + asideLen (L.drop pos) ≤ L.length := by
  have := takeWhile_le (fun c => c != 10) (L.drop pos)
  rw [List.length_drop] at this
  unfold asideLen
  omega
theorem aside_flat (L : List UInt8) (pos : Nat) (i : Nat) (h : i < asideLen (L.drop pos)) : L.getD (pos + i) 0 ≠ 10 := by
  have := takeWhile_get (fun c => c != 10) (L.drop pos) i h
  rw [getD_drop] at this
  simpa using this
theorem dash_head (L : List UInt8) (pos : Nat) (h : dashB (L.drop pos) = true) : pos < L.length ∧ L.getD pos 0 = 45 := by
  have h2 : (L.drop pos).take 2 = [45, 45] := by simpa [dashB] using h
  have hl : 0 < (L.drop pos).length := by
    refine Nat.pos_of_ne_zero fun e => ?_
    rw [List.length_eq_zero_iff.1 e] at h2
    cases h2
  rw [List.length_drop] at hl
  refine ⟨by omega, ?_⟩
  have h3 : ((L.drop pos).take 2).getD 0 0 = 45 := by rw [h2]; rfl
  have h4 := getD_drop L pos 0
  rw [Nat.add_zero] at h4
  rw [← h4]
  revert h3
  cases L.drop pos with
  | nil => intro h3; exact h3
  | cons a b => intro h3; exact h3
theorem inv_aside {L : List UInt8} {pos dn : Nat} {ts : List TokP} (h : Inv L pos dn ts) (hdn : dn ≤ pos) (hdash : dashB (L.drop pos) = true) : Inv L (pos + 1) (pos + asideLen (L.drop pos)) ts := by
  obtain ⟨hp, h45⟩ := dash_head L pos hdash
  have h1 : L.getD pos 0 ≠ 10 := by rw [h45]; decide
  have h2 : L.getD pos 0 ≠ 32 := by rw [h45]; decide
  have hpos := asideLen_pos (L.drop pos) (drop_pos L pos hp) (by rw [← getD_head, getD_drop]; exact h1)
  have hle := aside_le L pos hp
  refine ⟨hp, hle, ?_, fun i a b => ?_, Or.inr (aside_end L pos hp), ?_⟩
  · rw [h.lex, show max pos dn = pos by omega, show max (pos + 1) (pos + asideLen (L.drop pos)) = pos + asideLen (L.drop pos) by omega, lexAt_eq L pos hp, if_neg (not_blank hp h1 h2), if_pos hdash]
  · have := aside_flat L pos (i - pos) (by omega)
    rw [show pos + (i - pos) = i by omega] at this
    exact get_ne L i 10 this (by omega)
  · have := h.few; omega
theorem map_map_cons (o : Option (List TokP)) (ts : List TokP) (t : TokP) : (o.map (t :: ·)).map (ts ++ ·) = o.map (ts ++ [t] ++ ·) := by
  cases o with
  | none => rfl
  | some x => simp
theorem inv_tok {L : List UInt8} {pos dn : Nat} {ts : List TokP} (h : Inv L pos dn ts) (hdn : dn ≤ pos) (hp : pos < L.length) (h1 : L.getD pos 0 ≠ 10) (h2 : L.getD pos 0 ≠ 32) (hdash : dashB (L.drop pos) = false) (hk : nextK (L.drop pos) ≠ 0) :
    Inv L (pos + 1) (pos + nextLen (L.drop pos)) (ts ++ [tokAt L pos]) := by
  have hpos := nextLen_pos (L.drop pos) (drop_pos L pos hp)
  obtain ⟨hle, hby⟩ := next_bytes (L.drop pos) (drop_pos L pos hp) hk
  rw [List.length_drop] at hle
  refine ⟨hp, by omega, ?_, fun i a b => ?_, Or.inl fun i a b => ?_, ?_⟩
  · rw [h.lex, show max pos dn = pos by omega, show max (pos + 1) (pos + nextLen (L.drop pos)) = pos + nextLen (L.drop pos) by omega, lexAt_eq L pos hp, if_neg (not_blank hp h1 h2), hdash, if_neg (by decide), if_neg hk, map_map_cons]
  · have := (hby (i - pos) (by omega)).2
    rw [getD_drop, show pos + (i - pos) = i by omega] at this
    exact get_ne L i 10 this (by omega)
  · have := (hby (i - pos) (by omega)).1
    rw [getD_drop, show pos + (i - pos) = i by omega] at this
    exact this
  · have := h.few
    rw [List.length_append, List.length_singleton]
    omega
theorem inv_bad {L : List UInt8} {pos dn : Nat} {ts : List TokP} (h : Inv L pos dn ts) (hdn : dn ≤ pos) (hp : pos < L.length) (h1 : L.getD pos 0 ≠ 10) (h2 : L.getD pos 0 ≠ 32) (hdash : dashB (L.drop pos) = false) (hk : nextK (L.drop pos) = 0) : lexR L = none := by
  have hn : lexAt L 0 = none := by
    rw [h.lex, show max pos dn = pos by omega, lexAt_eq L pos hp, if_neg (not_blank hp h1 h2), hdash, if_neg (by decide), if_pos hk]
    rfl
  unfold lexR
  rw [hn]
  split <;> rfl
theorem inv_end {L : List UInt8} {pos dn : Nat} {ts : List TokP} (h : Inv L pos dn ts) (hp : ¬ pos < L.length) : lexAt L 0 = some ts := by
  rw [h.lex, lexAt_end L _ (by have := h.hp; omega)]
  simp
theorem lexR_long (L : List UInt8) (h : 1500 < L.length) : lexR L = none := by
  unfold lexR
  rw [if_neg (by omega)]
theorem lexR_many (L : List UInt8) (ts : List TokP) (h : lexAt L 0 = some ts) (h2 : 400 ≤ ts.length) : lexR L = none := by
  unfold lexR
  rw [h]
  split
  · show (if ts.length < 400 then _ else none) = none
    rw [if_neg (by omega)]
  · rfl
theorem lexR_some (L : List UInt8) (ts : List TokP) (hl : L.length ≤ 1500) (h : lexAt L 0 = some ts) (h2 : ts.length < 400) : lexR L = some (ts ++ [⟨6, [], lineAt L L.length, L.length - begAt L L.length + 1⟩]) := by
  unfold lexR
  rw [h, if_pos hl]
  show (if ts.length < 400 then _ else none) = _
  rw [if_pos h2]
end Go.Proofs.Ytndlhdeipicbpaa
