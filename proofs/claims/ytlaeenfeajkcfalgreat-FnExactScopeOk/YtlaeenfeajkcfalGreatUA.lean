/- What is free, plainly; what comes out of a net is just what is free in its first place. -/
import Derived.Test.YtlaeenfeajkcfalGreatVQ
import Derived.Test.YtlaeenfeajkcfalGreatSG
namespace Go.Proofs.YtlaeenfeajkcfalGreat.Fr
open Go.ChangeShapes Go.WideShapes Go.ChangeAt Go.RowKit Go.Proofs.YtlaeenfeajkcfalGreat.Nm
set_option linter.unusedVariables false

/-- Which names are free in it, all its parts looked at. -/
def fre : Nat → Bnds
  | 0 => ⟨fun _ _ => False, fun _ _ => False, fun _ _ => False⟩
  | h + 1 => ⟨fun e y => (e.k = 1 ∧ y = e.s) ∨ (∃ c ∈ e.l, (fre h).ex c y ∧ y ∉ bE e) ∨ (∃ d ∈ e.ds, (fre h).de d y ∧ y ∉ bD e) ∨ (∃ a ∈ e.al, (fre h).al a y),
     fun d y => (∃ c ∈ d.l, (fre h).ex c y ∧ y ∉ d.ss ++ d.ds.map Tr.s) ∨ (∃ c ∈ d.ds, (fre h).de c y ∧ y ∉ d.ss ++ d.ds.map Tr.s),
     fun a y => ∃ c ∈ a.l, (fre h).ex c y ∧ y ∉ a.ss⟩
def freK (b : Bool) (h : Nat) (t : Tr) (y : ByteArray) : Prop := if b then (fre h).ex t y else (fre h).de t y
def FreT (b : Bool) (t : Tr) (y : ByteArray) : Prop := ∃ h, freK b h t y
theorem fre_mono : ∀ h, (∀ t y, (fre h).ex t y → (fre (h + 1)).ex t y) ∧ (∀ t y, (fre h).de t y → (fre (h + 1)).de t y) ∧ (∀ t y, (fre h).al t y → (fre (h + 1)).al t y) := by
  intro h
  induction h with
  | zero => exact ⟨fun _ _ h => h.elim, fun _ _ h => h.elim, fun _ _ h => h.elim⟩
  | succ h ih =>
    obtain ⟨i1, i2, i3⟩ := ih
    refine ⟨fun t y hy => ?_, fun t y hy => ?_, fun t y hy => ?_⟩
    · rcases hy with hy | ⟨c, hc, hy, hn⟩ | ⟨c, hc, hy, hn⟩ | ⟨c, hc, hy⟩
      · exact .inl hy
      · exact .inr (.inl ⟨c, hc, i1 c y hy, hn⟩)
      · exact .inr (.inr (.inl ⟨c, hc, i2 c y hy, hn⟩))
      · exact .inr (.inr (.inr ⟨c, hc, i3 c y hy⟩))
    · rcases hy with ⟨c, hc, hy, hn⟩ | ⟨c, hc, hy, hn⟩
      · exact .inl ⟨c, hc, i1 c y hy, hn⟩
      · exact .inr ⟨c, hc, i2 c y hy, hn⟩
    · obtain ⟨c, hc, hy, hn⟩ := hy
      exact ⟨c, hc, i1 c y hy, hn⟩
theorem free_part {b : Bool} {h : Nat} {t : Tr} {y : ByteArray} (hf : freK b (h + 1) t y) : (b = true ∧ t.k = 1 ∧ y = t.s) ∨ ∃ b' c B, Part b t b' c B ∧ y ∉ B ∧ freK b' h c y := by
  cases b
  · rcases hf with ⟨c, hc, hy, hn⟩ | ⟨c, hc, hy, hn⟩
    · exact .inr ⟨true, c, _, .inl ⟨rfl, hc, rfl⟩, hn, hy⟩
    · exact .inr ⟨false, c, _, .inr ⟨rfl, hc, rfl⟩, hn, hy⟩
  · rcases hf with hy | ⟨c, hc, hy, hn⟩ | ⟨c, hc, hy, hn⟩ | ⟨a, ha, hy⟩
    · exact .inl ⟨rfl, hy⟩
    · exact .inr ⟨true, c, _, .inl ⟨rfl, hc, rfl⟩, hn, hy⟩
    · exact .inr ⟨false, c, _, .inr (.inl ⟨rfl, hc, rfl⟩), hn, hy⟩
    · cases h with
      | zero => exact hy.elim
      | succ h =>
        obtain ⟨c, hc, hy, hn⟩ := hy
        exact .inr ⟨true, c, _, .inr (.inr ⟨rfl, a, ha, hc, rfl⟩), hn, (fre_mono h).1 c y hy⟩
theorem part_free {b b' : Bool} {t c : Tr} {B : List ByteArray} {y : ByteArray} (hp : Part b t b' c B) (hn : y ∉ B) (hf : FreT b' c y) : FreT b t y := by
  obtain ⟨h, hf⟩ := hf
  cases b
  · rcases hp with ⟨rfl, hc, rfl⟩ | ⟨rfl, hc, rfl⟩
    · exact ⟨h + 1, .inl ⟨c, hc, hf, hn⟩⟩
    · exact ⟨h + 1, .inr ⟨c, hc, hf, hn⟩⟩
  · rcases hp with ⟨rfl, hc, rfl⟩ | ⟨rfl, hc, rfl⟩ | ⟨rfl, a, ha, hc, rfl⟩
    · exact ⟨h + 1, .inr (.inl ⟨c, hc, hf, hn⟩)⟩
    · exact ⟨h + 1, .inr (.inr (.inl ⟨c, hc, hf, hn⟩))⟩
    · exact ⟨h + 2, .inr (.inr (.inr ⟨a, ha, c, hc, hf, hn⟩))⟩
theorem up_free {w : World} {K : Nat → Prop} {ks : List (Bool × Addr)} {G : Log} (hN : NetF w K ks G) {y : ByteArray} : ∀ n p i, upN G y n p i → (∃ k h t, ks[p]? = some k ∧ AtP w K k h t ∧ FreT k.1 t y) → ∃ k h t, ks[i]? = some k ∧ AtP w K k h t ∧ FreT k.1 t y := by
  intro n
  induction n with
  | zero =>
    intro p i hu hp
    have e : p = i := hu
    rw [← e]
    exact hp
  | succ n ih =>
    intro p i hu hp
    obtain ⟨j, q, h1, h2, h3, rfl⟩ := hu
    obtain ⟨k, h, t, e1, e2, e3⟩ := ih p j h1 hp
    obtain ⟨kf, ki, hf, tf, hi, ti, B, s1, s2, s3, s4, s5, s6⟩ := hN.sound _ (waysOf_mem.1 h2)
    have s2' : ks[j]? = some ki := s2
    rw [e1] at s2'
    cases s2'
    have et := at_fun e2 s4
    subst et
    exact ⟨kf, hf, tf, s1, s3, part_free s5 (fun hm => h3 ((s6.2.2 y).2 hm)) e3⟩
theorem free_up {w : World} {K : Nat → Prop} {ks : List (Bool × Addr)} {G : Log} (hN : NetF w K ks G) {pl : ByteArray → List Nat} (hA : AskedAt w K ks ks.length pl) {y : ByteArray} : ∀ h b t, freK b h t y → ∀ i k h', ks[i]? = some k → k.1 = b → AtP w K k h' t → ∃ p ∈ pl y, ∃ n, upN G y n p i := by
  intro h
  induction h with
  | zero =>
    intro b t hf
    exfalso
    cases b
    · exact hf
    · exact hf
  | succ h ih =>
    intro b t hf i k h' hi hk hat
    rcases free_part hf with ⟨hb, hv⟩ | ⟨b', c, B, hp, hn, hc⟩
    · exact ⟨i, (hA.1 y i).2 ⟨(List.getElem?_eq_some_iff.1 hi).1, k, h', t, hi, hat, hk.trans hb, hv⟩, 0, rfl⟩
    · subst hk
      obtain ⟨g, hg, e1, e2, ki, h2, e3, e4, e5⟩ := hN.whole i k h' t hi hat b' c B hp
      obtain ⟨p, hpm, n, hu⟩ := ih b' c hc g.1 ki h2 e3 e4 e5
      refine ⟨p, hpm, n + 1, g.1, g.2, hu, waysOf_mem.2 hg, fun hm => hn ((e2.2.2 y).1 hm), e1⟩
/-- What comes out is just what is free in the first place. -/
theorem rch_free {w : World} {K : Nat → Prop} {ks : List (Bool × Addr)} {G : Log} (hN : NetF w K ks G) {pl : ByteArray → List Nat} (hA : AskedAt w K ks ks.length pl) {k : Bool × Addr} {h : Nat} {t : Tr} (hk : ks[0]? = some k) (hat : AtP w K k h t) (y : ByteArray) : Rch G y (pl y) 0 ↔ FreT k.1 t y := by
  constructor
  · rintro ⟨p, hp, n, hu⟩
    obtain ⟨-, kp, hp', tp, e1, e2, e3⟩ := (hA.1 y p).1 hp
    obtain ⟨k', h', t', f1, f2, f3⟩ := up_free hN n p 0 hu ⟨kp, hp', tp, e1, e2, 1, by
      unfold freK
      rw [if_pos e3.1]
      exact .inl e3.2⟩
    rw [hk] at f1
    cases f1
    have et := at_fun hat f2
    rw [et]
    exact f3
  · rintro ⟨h', hf⟩
    exact free_up hN hA h' k.1 t hf 0 k h hk rfl hat
end Go.Proofs.YtlaeenfeajkcfalGreat.Fr
