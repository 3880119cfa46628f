/- Made of EA, TH, TI. -/
import Derived.Test.YtlaeenfeajkcfalGreatSJ
import Derived.Lib.ItoaNum
import Derived.Test.YtlaeenfeajkcfalGreatTG
namespace Go.Proofs.YtlaeenfeajkcfalGreat
set_option linter.unusedSimpArgs false

/-! What is right, a kind at a time. -/
theorem allZ_mem {f : Tr → Int → Bool} {xs : List Tr} {d : Int} (h : allZ f xs d = true) {x : Tr} (hx : x ∈ xs) : f x d = true := by
  unfold allZ at h
  exact List.all_eq_true.1 h x hx
theorem zlen0 {α : Type} {l : List α} (h : l.length = 0) : l = [] := List.length_eq_zero_iff.1 h
theorem zlen1 {α : Type} {l : List α} (h : l.length = 1) : ∃ a, l = [a] := by
  match l, h with
  | [a], _ => exact ⟨a, rfl⟩
theorem zlen2 {α : Type} {l : List α} (h : l.length = 2) : ∃ a b, l = [a, b] := by
  match l, h with
  | [a, b], _ => exact ⟨a, b, rfl⟩
theorem zlen3 {α : Type} {l : List α} (h : l.length = 3) : ∃ a b c, l = [a, b, c] := by
  match l, h with
  | [a, b, c], _ => exact ⟨a, b, c, rfl⟩
theorem empty_size {s : ByteArray} (h : emptyB s = true) : s = ⟨#[]⟩ := by
  have e : s.data.toList = [] := by rw [← toList_data]; exact eq_of_beq h
  cases s with
  | mk d =>
    have : d = #[] := by simpa using e
    rw [this]

structure Ok (h : Nat) (e : Tr) (d : Int) : Prop where
  deep : d ≤ 12
  parts : ∀ x, x ∈ e.l → (okz h).ex x (d + 1) = true
  alts : ∀ x, x ∈ e.al → altB x = true ∧ (okz h).al x (d + 1) = true
theorem ok_of {h : Nat} {e : Tr} {d : Int} (H : (okz (h + 1)).ex e d = true) : Ok h e d ∧ hereB e = true ∧ (e.k ≠ 6 ∨ decsB (okz h).de e.ds 6 (d + 1) = true) := by
  have H2 : (decide (d ≤ 12) && (hereB e && (allZ (okz h).ex e.l (d + 1) && (allZ (fun a d => altB a && (okz h).al a d) e.al (d + 1) && (decide (e.k ≠ 6) || decsB (okz h).de e.ds 6 (d + 1)))))) = true := H
  simp only [Bool.and_eq_true, Bool.or_eq_true, decide_eq_true_eq] at H2
  obtain ⟨h1, h2, h3, h4, h5⟩ := H2
  refine ⟨⟨h1, fun x hx => allZ_mem h3 hx, fun x hx => ?_⟩, h2, h5⟩
  have := allZ_mem h4 hx
  simpa only [Bool.and_eq_true] using this
/-- The kinds, each with its own parts and no others. -/
theorem ok_kinds {e : Tr} (h : hereB e = true) :
    (e.k = 1 ∧ nmB e.s = true ∧ e.n = 0 ∧ e.l = [] ∧ e.ds = [] ∧ e.al = []) ∨
    (e.k = 2 ∧ grB e.s = true ∧ e.n = 0 ∧ e.l = [] ∧ e.ds = [] ∧ e.al = []) ∨
    (e.k = 3 ∧ 0 ≤ e.n ∧ e.n ≤ 999999 ∧ e.s = ⟨#[]⟩ ∧ e.l = [] ∧ e.ds = [] ∧ e.al = []) ∨
    (e.k = 4 ∧ e.s = ⟨#[]⟩ ∧ e.n = 0 ∧ (∃ a b, e.l = [a, b]) ∧ e.ds = [] ∧ e.al = []) ∨
    (e.k = 5 ∧ (nmB e.s || isU e.s) = true ∧ e.n = 0 ∧ (∃ a, e.l = [a]) ∧ e.ds = [] ∧ e.al = []) ∨
    (e.k = 6 ∧ e.s = ⟨#[]⟩ ∧ e.n = 0 ∧ (∃ a, e.l = [a]) ∧ e.al = []) ∨
    (e.k = 7 ∧ e.s = ⟨#[]⟩ ∧ e.n = 0 ∧ (∃ a, e.l = [a]) ∧ e.ds = [] ∧ inB e.al.length 1 6 = true) ∨
    (e.k = 8 ∧ e.s = ⟨#[]⟩ ∧ e.n = 0 ∧ (∃ a b c, e.l = [a, b, c]) ∧ e.ds = [] ∧ e.al = []) ∨
    (e.k = 9 ∧ opB e.s = true ∧ e.n = 0 ∧ (∃ a b, e.l = [a, b]) ∧ e.ds = [] ∧ e.al = []) := by
  unfold hereB shapeE at h
  simp only [Bool.and_eq_true, Bool.or_eq_true, decide_eq_true_eq] at h
  obtain ⟨⟨⟨⟨hp, hd⟩, ha⟩, hn⟩, hk⟩ := h
  have hkk : e.k = 1 ∨ e.k = 2 ∨ e.k = 3 ∨ e.k = 4 ∨ e.k = 5 ∨ e.k = 6 ∨ e.k = 7 ∨ e.k = 8 ∨ e.k = 9 := by
    unfold partsN at hp
    split at hp
    · omega
    · split at hp
      · omega
      · split at hp
        · omega
        · split at hp
          · omega
          · omega
  unfold partsN at hp
  unfold kindB at hk
  rcases hkk with e1 | e1 | e1 | e1 | e1 | e1 | e1 | e1 | e1 <;> rw [e1] at hp hk hd ha hn <;> simp only [Int.reduceEq, or_false, or_true, ↓reduceIte, false_or, true_or, Bool.and_eq_true] at hp hk hd ha hn
  · exact .inl ⟨e1, hk, hn, zlen0 (by omega), zlen0 hd, zlen0 ha⟩
  · exact .inr (.inl ⟨e1, hk, hn, zlen0 (by omega), zlen0 hd, zlen0 ha⟩)
  · have h2 : 0 ≤ e.n ∧ e.n ≤ 999999 := by
      have := hk.1
      unfold inB at this
      simp at this
      omega
    exact .inr (.inr (.inl ⟨e1, h2.1, h2.2, empty_size hk.2, zlen0 (by omega), zlen0 hd, zlen0 ha⟩))
  · exact .inr (.inr (.inr (.inl ⟨e1, empty_size hk, hn, zlen2 (by omega), zlen0 hd, zlen0 ha⟩)))
  · exact .inr (.inr (.inr (.inr (.inl ⟨e1, (by simpa using hk), hn, zlen1 (by omega), zlen0 hd, zlen0 ha⟩))))
  · exact .inr (.inr (.inr (.inr (.inr (.inl ⟨e1, empty_size hk, hn, zlen1 (by omega), zlen0 ha⟩)))))
  · exact .inr (.inr (.inr (.inr (.inr (.inr (.inl ⟨e1, empty_size hk.2, hn, zlen1 (by omega), zlen0 hd, hk.1⟩))))))
  · exact .inr (.inr (.inr (.inr (.inr (.inr (.inr (.inl ⟨e1, empty_size hk, hn, zlen3 (by omega), zlen0 hd, zlen0 ha⟩)))))))
  · exact .inr (.inr (.inr (.inr (.inr (.inr (.inr (.inr ⟨e1, hk, hn, zlen2 (by omega), zlen0 hd, zlen0 ha⟩)))))))
theorem decs_of {f : Tr → Int → Bool} {ds : List Tr} {m d : Int} (h : decsB f ds m d = true) : 1 ≤ ds.length ∧ ∀ x, x ∈ ds → f x d = true := by
  unfold decsB inB at h
  simp only [Bool.and_eq_true, decide_eq_true_eq] at h
  exact ⟨by omega, fun x hx => allZ_mem h.2.1 hx⟩
theorem okd_of {h : Nat} {x : Tr} {d : Int} (H : (okz (h + 1)).de x d = true) : nmB x.s = true ∧ varsB x.ss = true ∧ (∀ y, y ∈ x.l → (okz h).ex y (d + 1) = true) ∧ (x.ds = [] ∨ (1 ≤ x.ds.length ∧ ∀ y, y ∈ x.ds → (okz h).de y (d + 1) = true)) := by
  have H2 : ((nmB x.s && varsB x.ss) && (allZ (okz h).ex x.l (d + 1) && (decide (x.ds.length = 0) || decsB (okz h).de x.ds 6 (d + 1)))) = true := H
  simp only [Bool.and_eq_true, Bool.or_eq_true, decide_eq_true_eq] at H2
  obtain ⟨⟨h1, h2⟩, h3, h4⟩ := H2
  refine ⟨h1, h2, fun y hy => allZ_mem h3 hy, ?_⟩
  rcases h4 with h4 | h4
  · exact .inl (zlen0 h4)
  · exact .inr (decs_of h4)
theorem oka_of {h : Nat} {x : Tr} {d : Int} (H : (okz (h + 1)).al x d = true) : ∀ y, y ∈ x.l → (okz h).ex y d = true :=
  fun _ hy => allZ_mem (f := (okz h).ex) H hy

/-! How long it is. -/
/-! The texts of each kind. -/
end Go.Proofs.YtlaeenfeajkcfalGreat
namespace Go.Proofs.YtlaeenfeajkcfalGreat.Fr
open Go.ChangeShapes Go.WideShapes Go.ChangeAt Go.RowKit Go.Proofs.YtlaeenfeajkcfalGreat.Nm Go.Proofs.YtlaeenfeajkcfalGreat.Kn
set_option linter.unusedVariables false

def FE (t : Tr) (y : ByteArray) : Prop := ∃ g, (fre g).ex t y
def FD (t : Tr) (y : ByteArray) : Prop := ∃ g, (fre g).de t y
def FA (t : Tr) (y : ByteArray) : Prop := ∃ g, (fre g).al t y
theorem FE_iff {e : Tr} {y : ByteArray} : FE e y ↔ (e.k = 1 ∧ y = e.s) ∨ (∃ c ∈ e.l, FE c y ∧ y ∉ bE e) ∨ (∃ d ∈ e.ds, FD d y ∧ y ∉ bD e) ∨ (∃ a ∈ e.al, FA a y) := by
  constructor
  · rintro ⟨g, hg⟩
    cases g with
    | zero => exact hg.elim
    | succ g =>
      rcases hg with hg | ⟨c, hc, h1, h2⟩ | ⟨c, hc, h1, h2⟩ | ⟨c, hc, h1⟩
      · exact .inl hg
      · exact .inr (.inl ⟨c, hc, ⟨g, h1⟩, h2⟩)
      · exact .inr (.inr (.inl ⟨c, hc, ⟨g, h1⟩, h2⟩))
      · exact .inr (.inr (.inr ⟨c, hc, g, h1⟩))
  · rintro (hg | ⟨c, hc, ⟨g, h1⟩, h2⟩ | ⟨c, hc, ⟨g, h1⟩, h2⟩ | ⟨c, hc, g, h1⟩)
    · exact ⟨1, .inl hg⟩
    · exact ⟨g + 1, .inr (.inl ⟨c, hc, h1, h2⟩)⟩
    · exact ⟨g + 1, .inr (.inr (.inl ⟨c, hc, h1, h2⟩))⟩
    · exact ⟨g + 1, .inr (.inr (.inr ⟨c, hc, h1⟩))⟩
theorem FD_iff {d : Tr} {y : ByteArray} : FD d y ↔ (∃ c ∈ d.l, FE c y ∧ y ∉ d.ss ++ d.ds.map Tr.s) ∨ (∃ c ∈ d.ds, FD c y ∧ y ∉ d.ss ++ d.ds.map Tr.s) := by
  constructor
  · rintro ⟨g, hg⟩
    cases g with
    | zero => exact hg.elim
    | succ g =>
      rcases hg with ⟨c, hc, h1, h2⟩ | ⟨c, hc, h1, h2⟩
      · exact .inl ⟨c, hc, ⟨g, h1⟩, h2⟩
      · exact .inr ⟨c, hc, ⟨g, h1⟩, h2⟩
  · rintro (⟨c, hc, ⟨g, h1⟩, h2⟩ | ⟨c, hc, ⟨g, h1⟩, h2⟩)
    · exact ⟨g + 1, .inl ⟨c, hc, h1, h2⟩⟩
    · exact ⟨g + 1, .inr ⟨c, hc, h1, h2⟩⟩
theorem FA_iff {a : Tr} {y : ByteArray} : FA a y ↔ ∃ c ∈ a.l, FE c y ∧ y ∉ a.ss := by
  constructor
  · rintro ⟨g, hg⟩
    cases g with
    | zero => exact hg.elim
    | succ g =>
      obtain ⟨c, hc, h1, h2⟩ := hg
      exact ⟨c, hc, ⟨g, h1⟩, h2⟩
  · rintro ⟨c, hc, ⟨g, h1⟩, h2⟩
    exact ⟨g + 1, c, hc, h1, h2⟩
theorem ex_mem {l : List Tr} {P Q : Tr → Prop} (h : ∀ c ∈ l, P c ↔ Q c) : (∃ c ∈ l, P c) ↔ ∃ c ∈ l, Q c :=
  ⟨fun ⟨c, hc, h1⟩ => ⟨c, hc, (h c hc).1 h1⟩, fun ⟨c, hc, h1⟩ => ⟨c, hc, (h c hc).2 h1⟩⟩
theorem ex_out {l : List Tr} {P : Tr → Prop} {R : Prop} : (∃ c ∈ l, P c ∧ R) ↔ (∃ c ∈ l, P c) ∧ R :=
  ⟨fun ⟨c, hc, h1, h2⟩ => ⟨⟨c, hc, h1⟩, h2⟩, fun ⟨⟨c, hc, h1⟩, h2⟩ => ⟨c, hc, h1, h2⟩⟩
theorem nm_und {s : ByteArray} (h : nmB s = true) : s ≠ und := fun e => by
  have h9 := nm_notU h
  rw [e] at h9
  unfold isU at h9
  rw [und_list] at h9
  cases h9
theorem fre_frm : ∀ h, (∀ t d, (okz h).ex t d = true → ∀ y, FE t y ↔ (frm h).ex t y) ∧ (∀ t d, (okz h).de t d = true → ∀ y, FD t y ↔ (frm h).de t y) ∧ (∀ t d, (okz h).al t d = true → ∀ y, FA t y ↔ (frm h).al t y) := by
  intro h
  induction h with
  | zero => exact ⟨fun _ _ h => (by cases h), fun _ _ h => (by cases h), fun _ _ h => (by cases h)⟩
  | succ h ih =>
    obtain ⟨i1, i2, i3⟩ := ih
    refine ⟨fun t d ho y => ?_, fun t d ho y => ?_, fun t d ho y => ?_⟩
    · obtain ⟨⟨-, hl, ha⟩, hh, hd⟩ := ok_of ho
      have e1 : (∃ c ∈ t.l, FE c y) ↔ ∃ c ∈ t.l, (frm h).ex c y := ex_mem fun c hc => i1 c _ (hl c hc) y
      have e3 : (∃ c ∈ t.al, FA c y) ↔ ∃ c ∈ t.al, (frm h).al c y := ex_mem fun c hc => i3 c _ (ha c hc).2 y
      rw [FE_iff, ex_out, ex_out, e1, e3]
      show _ ↔ (if t.k = 1 then y = t.s ∧ y ≠ und else
        if t.k = 5 then (∃ c ∈ t.l, (frm h).ex c y) ∧ y ∉ [t.s] else
        if t.k = 6 then ((∃ c ∈ t.l, (frm h).ex c y) ∧ y ∉ t.ds.map Tr.s) ∨ ((∃ d ∈ t.ds, (frm h).de d y) ∧ y ∉ t.ds.map Tr.s) else
        if t.k = 7 then (∃ c ∈ t.l, (frm h).ex c y) ∨ (∃ a ∈ t.al, (frm h).al a y) else ∃ c ∈ t.l, (frm h).ex c y)
      rcases ok_kinds hh with ⟨k, hn, -, k1, k2, k3⟩ | ⟨k, -, -, k1, k2, k3⟩ | ⟨k, -, -, -, k1, k2, k3⟩ | ⟨k, -, -, -, k2, k3⟩ | ⟨k, -, -, -, k2, k3⟩ | ⟨k, -, -, -, k3⟩ | ⟨k, -, -, -, k2, -⟩ | ⟨k, -, -, -, k2, k3⟩ | ⟨k, -, -, -, k2, k3⟩
      · have hu := nm_und hn
        rw [k1, k2, k3, k]
        simp only [if_true, List.not_mem_nil, false_and, exists_false, or_false, true_and]
        exact ⟨fun e => ⟨e, e ▸ hu⟩, fun e => e.1⟩
      · rw [k1, k2, k3, k]
        simp
      · rw [k1, k2, k3, k]
        simp
      · rw [k2, k3]
        unfold bE
        rw [k]
        simp
      · rw [k2, k3]
        unfold bE
        rw [k]
        simp
      · have hd6 : decsB (okz h).de t.ds 6 (d + 1) = true := by
          rcases hd with hd | hd
          · exact absurd k hd
          · exact hd
        have e2 : (∃ c ∈ t.ds, FD c y) ↔ ∃ c ∈ t.ds, (frm h).de c y := ex_mem fun c hc => i2 c _ ((decs_of hd6).2 c hc) y
        rw [e2, k3]
        unfold bE bD
        rw [k]
        simp
      · rw [k2]
        unfold bE
        rw [k]
        simp
      · rw [k2, k3]
        unfold bE
        rw [k]
        simp
      · rw [k2, k3]
        unfold bE
        rw [k]
        simp
    · obtain ⟨-, -, hl, hd⟩ := okd_of ho
      have e1 : (∃ c ∈ t.l, FE c y) ↔ ∃ c ∈ t.l, (frm h).ex c y := ex_mem fun c hc => i1 c _ (hl c hc) y
      have e2 : (∃ c ∈ t.ds, FD c y) ↔ ∃ c ∈ t.ds, (frm h).de c y := ex_mem fun c hc => by
        rcases hd with hd | hd
        · rw [hd] at hc; cases hc
        · exact i2 c _ (hd.2 c hc) y
      rw [FD_iff, ex_out, ex_out, e1, e2]
      show _ ↔ (((∃ c ∈ t.l, (frm h).ex c y) ∨ (∃ c ∈ t.ds, (frm h).de c y)) ∧ y ∉ t.ds.map Tr.s) ∧ y ∉ t.ss
      rw [List.mem_append]
      constructor
      · rintro (⟨h1, h2⟩ | ⟨h1, h2⟩)
        · exact ⟨⟨.inl h1, fun h9 => h2 (.inr h9)⟩, fun h9 => h2 (.inl h9)⟩
        · exact ⟨⟨.inr h1, fun h9 => h2 (.inr h9)⟩, fun h9 => h2 (.inl h9)⟩
      · rintro ⟨⟨h1 | h1, h2⟩, h3⟩
        · exact .inl ⟨h1, fun h9 => h9.elim h3 h2⟩
        · exact .inr ⟨h1, fun h9 => h9.elim h3 h2⟩
    · have hl := oka_of ho
      have e1 : (∃ c ∈ t.l, FE c y) ↔ ∃ c ∈ t.l, (frm h).ex c y := ex_mem fun c hc => i1 c _ (hl c hc) y
      rw [FA_iff, ex_out, e1]
      rfl
theorem freT_frm {h : Nat} {t : Tr} {d : Int} (ho : (okz h).de t d = true) (y : ByteArray) : FreT false t y ↔ (frm h).de t y := by
  rw [← (fre_frm h).2.1 t d ho y]
  exact Iff.rfl

/-! What is known. -/
theorem made_dist (ds : List Tr) : Dist (madeL ds) := by
  have key : ∀ (l L : List Mk), Dist L → Dist (l.foldl putL L) := by
    intro l
    induction l with
    | nil => exact fun L h => h
    | cons e r ih => exact fun L h => ih _ (dist_put h e)
  exact key _ [] List.Pairwise.nil
theorem known_un (ds : List Tr) (g : ByteArray) : (Kn.look (ents (madeL ds)) (g, -1)).isSome = !decide (arityZ ds g < 0) := by
  rw [look_un, find_made]
  unfold arityZ
  cases findM (given ++ consM ds) g with
  | none => rfl
  | some p =>
    show true = !decide ((p.2.2 : Int) < 0)
    have h9 : ¬ ((p.2.2 : Int) < 0) := by omega
    rw [decide_eq_false h9]
    rfl
theorem known_cnt (ds : List Tr) (g : ByteArray) (k : Nat) : (Kn.look (ents (madeL ds)) (g, (k : Int))).isSome = (arityZ ds g == (k : Int)) := by
  rw [look_cnt (made_dist ds), find_made]
  unfold arityZ
  cases findM (given ++ consM ds) g with
  | none =>
    show false = ((-1 : Int) == (k : Int))
    have h9 : ¬ ((-1 : Int) = (k : Int)) := by omega
    rw [beq_eq_false_iff_ne.2 h9]
  | some p =>
    show (p.2.2 == k) = ((p.2.2 : Int) == (k : Int))
    rw [Bool.eq_iff_iff, beq_iff_eq, beq_iff_eq]
    omega
theorem kn_km (ds : List Tr) (t : Tr) : knB (madeL ds) t = (!((t.k == 2) && decide (arityZ ds t.s < 0)) && t.al.all (kmA (arityZ ds))) := by
  unfold knB
  rw [known_un]
  congr 1
  · cases (t.k == 2) <;> simp
  · congr 1
    funext a
    unfold knA kmA
    rw [known_cnt]
def KE (L : List Mk) (t : Tr) : Prop := ∀ n, knN L n true t
def KD (L : List Mk) (t : Tr) : Prop := ∀ n, knN L n false t
theorem KE_iff {L : List Mk} {t : Tr} : KE L t ↔ knB L t = true ∧ (∀ c ∈ t.l, KE L c) ∧ (∀ c ∈ t.ds, KD L c) ∧ (∀ a ∈ t.al, ∀ c ∈ a.l, KE L c) := by
  constructor
  · intro hk
    refine ⟨(hk 1).1 rfl, fun c hc n => ?_, fun c hc n => ?_, fun a ha c hc n => ?_⟩
    · exact (hk (n + 1)).2 true c (bE t) (.inl ⟨rfl, hc, rfl⟩)
    · exact (hk (n + 1)).2 false c (bD t) (.inr (.inl ⟨rfl, hc, rfl⟩))
    · exact (hk (n + 1)).2 true c a.ss (.inr (.inr ⟨rfl, a, ha, hc, rfl⟩))
  · rintro ⟨h1, h2, h3, h4⟩ n
    cases n with
    | zero => trivial
    | succ n =>
      refine ⟨fun _ => h1, fun b' c B hp => ?_⟩
      rcases hp with ⟨rfl, hc, -⟩ | ⟨rfl, hc, -⟩ | ⟨rfl, a, ha, hc, -⟩
      · exact h2 c hc n
      · exact h3 c hc n
      · exact h4 a ha c hc n
theorem KD_iff {L : List Mk} {t : Tr} : KD L t ↔ (∀ c ∈ t.l, KE L c) ∧ (∀ c ∈ t.ds, KD L c) := by
  constructor
  · intro hk
    refine ⟨fun c hc n => ?_, fun c hc n => ?_⟩
    · exact (hk (n + 1)).2 true c (t.ss ++ t.ds.map Tr.s) (.inl ⟨rfl, hc, rfl⟩)
    · exact (hk (n + 1)).2 false c (t.ss ++ t.ds.map Tr.s) (.inr ⟨rfl, hc, rfl⟩)
  · rintro ⟨h2, h3⟩ n
    cases n with
    | zero => trivial
    | succ n =>
      refine ⟨fun h9 => (by cases h9), fun b' c B hp => ?_⟩
      rcases hp with ⟨rfl, hc, -⟩ | ⟨rfl, hc, -⟩
      · exact h2 c hc n
      · exact h3 c hc n
theorem kn_all2 (ds : List Tr) : ∀ h, (∀ t d, (okz h).ex t d = true → (KE (madeL ds) t ↔ (kmz (arityZ ds) h).ex t = true)) ∧ (∀ t d, (okz h).de t d = true → (KD (madeL ds) t ↔ (kmz (arityZ ds) h).de t = true)) ∧ (∀ t d, (okz h).al t d = true → (((kmA (arityZ ds) t = true) ∧ ∀ c ∈ t.l, KE (madeL ds) c) ↔ (kmz (arityZ ds) h).al t = true)) := by
  intro h
  induction h with
  | zero => exact ⟨fun _ _ h => (by cases h), fun _ _ h => (by cases h), fun _ _ h => (by cases h)⟩
  | succ h ih =>
    obtain ⟨i1, i2, i3⟩ := ih
    refine ⟨fun t d ho => ?_, fun t d ho => ?_, fun t d ho => ?_⟩
    · obtain ⟨⟨-, hl, ha⟩, hh, hd⟩ := ok_of ho
      have hds : ∀ c ∈ t.ds, (okz h).de c (d + 1) = true := fun c hc => by
        rcases hd with hd | hd
        · have k2 : t.ds = [] := by
            rcases ok_kinds hh with ⟨k, -, -, -, k2, -⟩ | ⟨k, -, -, -, k2, -⟩ | ⟨k, -, -, -, -, k2, -⟩ | ⟨k, -, -, -, k2, -⟩ | ⟨k, -, -, -, k2, -⟩ | ⟨k, -, -, -, -⟩ | ⟨k, -, -, -, k2, -⟩ | ⟨k, -, -, -, k2, -⟩ | ⟨k, -, -, -, k2, -⟩
            all_goals first | exact k2 | exact absurd k hd
          rw [k2] at hc
          cases hc
        · exact (decs_of hd).2 c hc
      rw [KE_iff, kn_km]
      show _ ↔ (!((t.k == 2) && decide (arityZ ds t.s < 0)) && (t.l.all (kmz (arityZ ds) h).ex && (t.al.all (kmz (arityZ ds) h).al && t.ds.all (kmz (arityZ ds) h).de))) = true
      simp only [Bool.and_eq_true, List.all_eq_true]
      constructor
      · rintro ⟨⟨h1, h2⟩, h3, h4, h5⟩
        exact ⟨h1, fun c hc => (i1 c _ (hl c hc)).1 (h3 c hc), fun c hc => (i3 c _ (ha c hc).2).1 ⟨h2 c hc, h5 c hc⟩, fun c hc => (i2 c _ (hds c hc)).1 (h4 c hc)⟩
      · rintro ⟨h1, h3, h5, h4⟩
        exact ⟨⟨h1, fun c hc => ((i3 c _ (ha c hc).2).2 (h5 c hc)).1⟩, fun c hc => (i1 c _ (hl c hc)).2 (h3 c hc), fun c hc => (i2 c _ (hds c hc)).2 (h4 c hc), fun c hc => ((i3 c _ (ha c hc).2).2 (h5 c hc)).2⟩
    · obtain ⟨-, -, hl, hd⟩ := okd_of ho
      have hds : ∀ c ∈ t.ds, (okz h).de c (d + 1) = true := fun c hc => by
        rcases hd with hd | hd
        · rw [hd] at hc; cases hc
        · exact hd.2 c hc
      rw [KD_iff]
      show _ ↔ (t.l.all (kmz (arityZ ds) h).ex && t.ds.all (kmz (arityZ ds) h).de) = true
      simp only [Bool.and_eq_true, List.all_eq_true]
      exact ⟨fun h9 => ⟨fun c hc => (i1 c _ (hl c hc)).1 (h9.1 c hc), fun c hc => (i2 c _ (hds c hc)).1 (h9.2 c hc)⟩, fun h9 => ⟨fun c hc => (i1 c _ (hl c hc)).2 (h9.1 c hc), fun c hc => (i2 c _ (hds c hc)).2 (h9.2 c hc)⟩⟩
    · have hl := oka_of ho
      show _ ↔ (kmA (arityZ ds) t && t.l.all (kmz (arityZ ds) h).ex) = true
      simp only [Bool.and_eq_true, List.all_eq_true]
      exact ⟨fun h9 => ⟨h9.1, fun c hc => (i1 c _ (hl c hc)).1 (h9.2 c hc)⟩, fun h9 => ⟨h9.1, fun c hc => (i1 c _ (hl c hc)).2 (h9.2 c hc)⟩⟩
end Go.Proofs.YtlaeenfeajkcfalGreat.Fr
namespace Go.Proofs.YtlaeenfeajkcfalGreat.Fr
open Go.ChangeShapes Go.WideShapes Go.ChangeAt Go.RowKit Go.Proofs.YtlaeenfeajkcfalGreat.Nm Go.Proofs.YtlaeenfeajkcfalGreat.Kn
set_option linter.unusedVariables false

theorem reads_in {K : Nat → Prop} (w : World) : ∀ h, (∀ e cs, (reads K w h).ex e cs → (reads (fun b => K b ∧ b < w.heap.size) w h).ex e cs) ∧ (∀ d cs, (reads K w h).de d cs → (reads (fun b => K b ∧ b < w.heap.size) w h).de d cs) ∧ (∀ a cs, (reads K w h).al a cs → (reads (fun b => K b ∧ b < w.heap.size) w h).al a cs) := by
  have row : ∀ {α : Type} {R R' : α → List Value → Prop} {sz : Nat} {o : Option Addr} {xs : List α}, RowOf K w R sz o xs → (∀ x cs, R x cs → R' x cs) → RowOf (fun b => K b ∧ b < w.heap.size) w R' sz o xs := fun hr hR hne => by
    obtain ⟨b, off, e, hk, hl, hc⟩ := hr hne
    exact ⟨b, off, e, ⟨hk, hl⟩, hl, fun i x hx => by obtain ⟨cs, h1, h2, h3⟩ := hc i x hx; exact ⟨cs, h1, h2, hR x cs h3⟩⟩
  intro h
  induction h with
  | zero => exact ⟨fun _ _ h => h, fun _ _ h => h, fun _ _ h => h⟩
  | succ h ih =>
    obtain ⟨ih1, ih2, ih3⟩ := ih
    refine ⟨fun e cs he => ?_, fun d cs hd => ?_, fun a cs ha => ?_⟩
    · obtain ⟨e0, o1, c1, o2, c2, o3, c3, e1, e2, e3, e4, e5, r1, r2, r3⟩ := he
      exact ⟨e0, o1, c1, o2, c2, o3, c3, e1, e2, e3, e4, e5, row r1 ih1, row r2 ih2, row r3 ih3⟩
    · obtain ⟨d0, d1, d2, e, o1, c1, ce, o2, c2, e0, e1, e2, e3, e4, r1, e5, r2, r3⟩ := hd
      exact ⟨d0, d1, d2, e, o1, c1, ce, o2, c2, e0, e1, e2, e3, e4, row r1 (fun _ _ h => h), e5, ih1 _ _ r2, row r3 ih2⟩
    · obtain ⟨a0, a1, a2, a3, e, o1, c1, ce, e0, e1, e2, e3, r1, e4, r2⟩ := ha
      exact ⟨a0, a1, a2, a3, e, o1, c1, ce, e0, e1, e2, e3, row r1 (fun _ _ h => h), e4, ih1 _ _ r2⟩
theorem sum_lin (f g : Tr → Nat) (c k : Nat) : ∀ (l : List Tr), (∀ x ∈ l, f x ≤ c + k * g x) → c ≤ k → (l.map f).sum ≤ k * lw g l := by
  intro l
  induction l with
  | nil => intro _ _; simp
  | cons a r ih =>
    intro hx hc
    have h1 := hx a (by simp)
    have h2 := ih (fun x hm => hx x (by simp [hm])) hc
    unfold lw at *
    simp only [List.map_cons, List.sum_cons, List.length_cons]
    have e : k * (r.length + 1 + (g a + (r.map g).sum)) = k * (r.length + (r.map g).sum) + k + k * g a := by
      rw [Nat.mul_add, Nat.mul_add, Nat.mul_add, Nat.mul_add, Nat.mul_one]
      omega
    omega
theorem row_all {K : Nat → Prop} {w : World} {R : Tr → List Value → Prop} {sz : Nat} {o : Option Addr} {xs : List Tr} (h : RowOf K w R sz o xs) : ∀ x ∈ xs, ∃ cs, R x cs := by
  intro x hx
  obtain ⟨i, hi⟩ := List.mem_iff_getElem?.1 hx
  obtain ⟨b, off, -, -, -, hc⟩ := h (fun e => by rw [e] at hx; cases hx)
  obtain ⟨cs, -, -, hr⟩ := hc i x hi
  exact ⟨cs, hr⟩
theorem sizes {K : Nat → Prop} {w : World} : ∀ h, (∀ e cs, (reads K w h).ex e cs → (nmb h).ex e ≤ 1 + 2 * (wts h).ex e ∧ (wgt h).ex e ≤ 1 + 4 * (wts h).ex e) ∧ (∀ d cs, (reads K w h).de d cs → (nmb h).de d ≤ 2 + 2 * (wts h).de d ∧ (wgt h).de d ≤ 3 + 4 * (wts h).de d) ∧ (∀ a cs, (reads K w h).al a cs → (nmb h).al a ≤ 1 + 2 * (wts h).al a ∧ (wgt h).al a ≤ 2 + 4 * (wts h).al a) := by
  intro h
  induction h with
  | zero => exact ⟨fun _ _ h => h.elim, fun _ _ h => h.elim, fun _ _ h => h.elim⟩
  | succ h ih =>
    obtain ⟨i1, i2, i3⟩ := ih
    refine ⟨fun e cs he => ?_, fun d cs hd => ?_, fun a cs ha => ?_⟩
    · obtain ⟨e0, o1, c1, o2, c2, o3, c3, e1, e2, e3, e4, e5, r1, r2, r3⟩ := he
      have hw : (wts (h + 1)).ex e = e.s.size + lw (wts h).ex e.l + lw (wts h).de e.ds + lw (wts h).al e.al := rfl
      have n1 := sum_lin (nmb h).ex (wts h).ex 1 2 e.l (fun x hx => by obtain ⟨cs, hr⟩ := row_all r1 x hx; exact (i1 x cs hr).1) (by omega)
      have n2 := sum_lin (nmb h).de (wts h).de 2 2 e.ds (fun x hx => by obtain ⟨cs, hr⟩ := row_all r2 x hx; exact (i2 x cs hr).1) (by omega)
      have n3 := sum_lin (nmb h).al (wts h).al 1 2 e.al (fun x hx => by obtain ⟨cs, hr⟩ := row_all r3 x hx; exact (i3 x cs hr).1) (by omega)
      have g1 := sum_lin (fun c => 1 + (wgt h).ex c) (wts h).ex 2 4 e.l (fun x hx => by obtain ⟨cs, hr⟩ := row_all r1 x hx; have := (i1 x cs hr).2; omega) (by omega)
      have g2 := sum_lin (fun c => 1 + (wgt h).de c) (wts h).de 4 4 e.ds (fun x hx => by obtain ⟨cs, hr⟩ := row_all r2 x hx; have := (i2 x cs hr).2; omega) (by omega)
      have g3 := sum_lin (wgt h).al (wts h).al 2 4 e.al (fun x hx => by obtain ⟨cs, hr⟩ := row_all r3 x hx; exact (i3 x cs hr).2) (by omega)
      refine ⟨?_, ?_⟩
      · show 1 + (e.l.map (nmb h).ex).sum + (e.al.map (nmb h).al).sum + (e.ds.map (nmb h).de).sum ≤ _
        omega
      · show 1 + (e.l.map fun c => 1 + (wgt h).ex c).sum + (e.ds.map fun c => 1 + (wgt h).de c).sum + (e.al.map (wgt h).al).sum ≤ _
        omega
    · obtain ⟨d0, d1, d2, e, o1, c1, ce, o2, c2, e0, e1, e2, e3, e4, r1, e5, r2, r3⟩ := hd
      have hw : (wts (h + 1)).de d = d.s.size + sw d.ss + (d.l.map (wts h).ex).sum + lw (wts h).de d.ds := rfl
      have hsw : d.ss.length ≤ sw d.ss := by unfold sw; omega
      have n2 := sum_lin (nmb h).de (wts h).de 2 2 d.ds (fun x hx => by obtain ⟨cs, hr⟩ := row_all r3 x hx; exact (i2 x cs hr).1) (by omega)
      have g2 := sum_lin (fun c => 1 + (wgt h).de c) (wts h).de 4 4 d.ds (fun x hx => by obtain ⟨cs, hr⟩ := row_all r3 x hx; have := (i2 x cs hr).2; omega) (by omega)
      obtain ⟨m1, m2⟩ := i1 e _ r2
      rw [e0] at hw
      simp only [List.map_cons, List.map_nil, List.sum_cons, List.sum_nil] at hw
      refine ⟨?_, ?_⟩
      · show 1 + d.ss.length + (d.l.map (nmb h).ex).sum + (d.ds.map (nmb h).de).sum ≤ _
        rw [e0]
        simp only [List.map_cons, List.map_nil, List.sum_cons, List.sum_nil]
        omega
      · show 1 + d.ss.length + (d.l.map fun c => 1 + (wgt h).ex c).sum + (d.ds.map fun c => 1 + (wgt h).de c).sum ≤ _
        rw [e0]
        simp only [List.map_cons, List.map_nil, List.sum_cons, List.sum_nil]
        omega
    · obtain ⟨a0, a1, a2, a3, e, o1, c1, ce, e0, e1, e2, e3, r1, e4, r2⟩ := ha
      have hw : (wts (h + 1)).al a = a.s.size + sw a.ss + (a.l.map (wts h).ex).sum := rfl
      have hsw : a.ss.length ≤ sw a.ss := by unfold sw; omega
      obtain ⟨m1, m2⟩ := i1 e _ r2
      rw [e0] at hw
      simp only [List.map_cons, List.map_nil, List.sum_cons, List.sum_nil] at hw
      refine ⟨?_, ?_⟩
      · show a.ss.length + (a.l.map (nmb h).ex).sum ≤ _
        rw [e0]
        simp only [List.map_cons, List.map_nil, List.sum_cons, List.sum_nil]
        omega
      · show a.ss.length + (a.l.map fun c => 1 + (wgt h).ex c).sum ≤ _
        rw [e0]
        simp only [List.map_cons, List.map_nil, List.sum_cons, List.sum_nil]
        omega
theorem row_in {α : Type} {K : Nat → Prop} {w : World} {R R' : α → List Value → Prop} {sz : Nat} {o : Option Addr} {xs : List α} (hr : RowOf K w R sz o xs) (hR : ∀ x cs, R x cs → R' x cs) : RowOf (fun b => K b ∧ b < w.heap.size) w R' sz o xs := fun hne => by
  obtain ⟨b, off, e, hk, hl, hc⟩ := hr hne
  exact ⟨b, off, e, ⟨hk, hl⟩, hl, fun i x hx => by obtain ⟨cs, h1, h2, h3⟩ := hc i x hx; exact ⟨cs, h1, h2, hR x cs h3⟩⟩
theorem tyR_in {K : Nat → Prop} (w : World) : ∀ h x cs, tyR K w h x cs → tyR (fun b => K b ∧ b < w.heap.size) w h x cs := by
  intro h
  induction h with
  | zero => exact fun _ _ h => h
  | succ h ih =>
    intro x cs hr
    obtain ⟨a1, a2, a3, o, c, e1, e2, e3, r⟩ := hr
    exact ⟨a1, a2, a3, o, c, e1, e2, e3, row_in r ih⟩
theorem nlR_in {K : Nat → Prop} (w : World) {R R' : Tr → List Value → Prop} {n : Nat} (hR : ∀ x cs, R x cs → R' x cs) : ∀ x cs, nlR K w R n x cs → nlR (fun b => K b ∧ b < w.heap.size) w R' n x cs := by
  intro x cs hr
  obtain ⟨a1, a2, a3, a4, a5, o, c, e1, e2, e3, r⟩ := hr
  exact ⟨a1, a2, a3, a4, a5, o, c, e1, e2, e3, row_in r hR⟩
theorem prR_in {K : Nat → Prop} (w : World) (h : Nat) : ∀ x cs, prR K w h x cs → prR (fun b => K b ∧ b < w.heap.size) w h x cs := by
  intro x cs hr
  obtain ⟨a1, a2, a3, a4, a5, o1, c1, o2, c2, e1, e2, e3, r1, r2⟩ := hr
  exact ⟨a1, a2, a3, a4, a5, o1, c1, o2, c2, e1, e2, e3, row_in r1 (nlR_in w (nlR_in w (tyR_in w h))), row_in r2 (reads_in w h).2.1⟩
theorem pr_sizes {K : Nat → Prop} {w : World} {h : Nat} {x : Tr} {cs : List Value} (hr : prR K w h x cs) (hw : wpr h x ≤ 1048576) : (x.ds.map (nmb h).de).sum ≤ 2200000 ∧ (x.ds.map (wgt h).de).sum ≤ 5000000 ∧ x.ds.length ≤ 5000000 := by
  obtain ⟨-, -, -, -, -, o1, c1, o2, c2, -, -, -, -, r2⟩ := hr
  have hwx : wpr h x = lw (wda h) x.l + lw (wts h).de x.ds := rfl
  have hd := (sizes (K := K) (w := w) h).2.1
  have s1 := sum_lin (nmb h).de (wts h).de 2 2 x.ds (fun d hm => by obtain ⟨cs, hr⟩ := row_all r2 d hm; exact (hd d cs hr).1) (by omega)
  have s2 := sum_lin (wgt h).de (wts h).de 3 4 x.ds (fun d hm => by obtain ⟨cs, hr⟩ := row_all r2 d hm; exact (hd d cs hr).2) (by omega)
  have s3 : x.ds.length ≤ lw (wts h).de x.ds := by unfold lw; omega
  omega

theorem all_same2 {f g : Tr → Bool} {l : List Tr} (h : ∀ x ∈ l, f x = g x) : l.all f = l.all g := by
  induction l with
  | nil => rfl
  | cons q r ih => rw [List.all_cons, List.all_cons, h q (by simp), ih fun x hx => h x (by simp [hx])]
theorem bool_same {a b : Bool} (h : a = true ↔ b = true) : a = b := by cases a <;> cases b <;> simp_all
theorem scope_same {h : Nat} {x : Tr} {fn fk fm : Bool} (hfn : fn = true ↔ ∀ d ∈ x.ds, ∀ y, FreT false d y → y ∈ x.ds.map Tr.s) (hfk : fk = true ↔ ∀ d ∈ x.ds, KnT (madeL x.l) false d) (hfm : fm = true ↔ ∀ y, ¬ ((∃ d ∈ x.ds, (frm h).de d y) ∧ y ∉ x.ds.map Tr.s)) (hp : progB h x = true) :
    (fn && (fk && x.l.all (daK (x.l.map Tr.s) h))) = (x.ds.all (kmz (arityZ x.l) h).de && (fm && x.l.all (daM (x.l.map Tr.s) h))) := by
  rw [prog_same] at hp
  simp only [Bool.and_eq_true] at hp
  obtain ⟨hda, hdc, -⟩ := hp
  have hok : ∀ d ∈ x.ds, (okz h).de d 0 = true := (decs_of hdc).2
  have e1 : fn = fm := bool_same (by
    rw [hfn, hfm]
    constructor
    · rintro h1 y ⟨⟨d, hd, h2⟩, h3⟩
      exact h3 (h1 d hd y ((freT_frm (hok d hd) y).2 h2))
    · intro h1 d hd y h2
      exact Classical.byContradiction fun h3 => h1 y ⟨⟨d, hd, (freT_frm (hok d hd) y).1 h2⟩, h3⟩)
  have e2 : fk = x.ds.all (kmz (arityZ x.l) h).de := bool_same (by
    rw [hfk, List.all_eq_true]
    exact ⟨fun h1 d hd => ((kn_all2 x.l h).2.1 d _ (hok d hd)).1 (h1 d hd), fun h1 d hd => ((kn_all2 x.l h).2.1 d _ (hok d hd)).2 (h1 d hd)⟩)
  have e3 : x.l.all (daK (x.l.map Tr.s) h) = x.l.all (daM (x.l.map Tr.s) h) := by
    generalize x.l.map Tr.s = N
    unfold datasB at hda
    simp only [Bool.and_eq_true, List.all_eq_true] at hda
    obtain ⟨-, hd1, -⟩ := hda
    refine all_same2 fun d hd => ?_
    have h1 := hd1 d hd
    unfold data1 consB at h1
    simp only [Bool.and_eq_true, List.all_eq_true] at h1
    unfold daK daM
    refine all_same2 fun c hc => ?_
    have h2 := h1.2.2 c hc
    unfold con1 argsB at h2
    simp only [Bool.and_eq_true, List.all_eq_true] at h2
    unfold coK coM
    refine all_same2 fun t ht => ?_
    have h3 := h2.2.2 t ht
    unfold argB at h3
    rw [wr_ten h t 1 (by omega), Bool.and_eq_true] at h3
    exact (tm_tk h t 1 h3.1).symm
  rw [e1, e2, e3]
  cases fm <;> cases x.ds.all (kmz (arityZ x.l) h).de <;> rfl
theorem scope_answers {K : Nat → Prop} {h : Nat} {x : Tr} (fn fk fm : Bool) (hfn : fn = true ↔ ∀ d ∈ x.ds, ∀ y, FreT false d y → y ∈ x.ds.map Tr.s) (hfk : fk = true ↔ ∀ d ∈ x.ds, KnT (madeL x.l) false d) (hfm : fm = true ↔ ∀ y, ¬ ((∃ d ∈ x.ds, (frm h).de d y) ∧ y ∉ x.ds.map Tr.s)) :
    (progB h x && (fn && (fk && x.l.all (daK (x.l.map Tr.s) h)))) = (progB h x && (x.ds.all (kmz (arityZ x.l) h).de && (fm && x.l.all (daM (x.l.map Tr.s) h)))) := by
  cases hp : progB h x with
  | false => rfl
  | true => rw [scope_same hfn hfk hfm hp]
/-- What ScopeOk answers. -/
def ScopeIs (h : Nat) (x : Tr) (sb : Bool) : Prop := ∃ fm : Bool, (fm = true ↔ ∀ y, ¬ ((∃ d ∈ x.ds, (frm h).de d y) ∧ y ∉ x.ds.map Tr.s)) ∧ (progB h x && (x.ds.all (kmz (arityZ x.l) h).de && (fm && x.l.all (daM (x.l.map Tr.s) h)))) = sb
theorem bool_of (P : Prop) : ∃ b : Bool, b = true ↔ P := by
  rcases Classical.em P with h | h
  · exact ⟨true, by simp [h]⟩
  · exact ⟨false, by simp [h]⟩
theorem scope_is (h : Nat) (x : Tr) : ∃ sb, ScopeIs h x sb := by
  obtain ⟨fm, hfm⟩ := bool_of (∀ y, ¬ ((∃ d ∈ x.ds, (frm h).de d y) ∧ y ∉ x.ds.map Tr.s))
  exact ⟨_, fm, hfm, rfl⟩
theorem specScope_pr {K : Nat → Prop} {w : World} {h : Nat} {x : Tr} {cs : List Value} {sb : Bool} (hs : ScopeIs h x sb) (hr : prR K w h x cs) (hN : (consL x.l).length ≤ 1048576) (hT : (x.ds.map (nmb h).de).sum ≤ 2200000) (hl : x.ds.length ≤ 5000000) :
    Calls Tryz.prog 5 #[.agg cs.toArray] w fun e w' => e = .returned (.bool sb) ∧ Below w.heap.size w w' := by
  obtain ⟨fm, hfm, hsb⟩ := hs
  rw [← hsb]
  exact specScopeOk_any hr hN (by omega) (by omega) fm hfm
theorem implScope_pr {K : Nat → Prop} {w : World} {h : Nat} {x : Tr} {cs : List Value} {sb : Bool} (hs : ScopeIs h x sb) (hr : prR K w h x cs) (hp : ∀ b, K b → b < w.heap.size ∧ PlainAt w ⟨b, 0, none⟩) (hN : (consL x.l).length ≤ 1048576) (hT : (x.ds.map (wgt h).de).sum ≤ 5000000) (hl : x.ds.length ≤ 5000000) (hll : x.l.length ≤ 10000000) :
    Calls Tryz.prog 7 #[.agg cs.toArray] w fun e w' => e = .returned (.bool sb) ∧ Below w.heap.size w w' := by
  obtain ⟨fm, hfm, hsb⟩ := hs
  obtain ⟨fn, hfn⟩ := bool_of (∀ d ∈ x.ds, ∀ y, FreT false d y → y ∈ x.ds.map Tr.s)
  obtain ⟨fk, hfk⟩ := bool_of (∀ d ∈ x.ds, KnT (madeL x.l) false d)
  rw [← hsb, ← scope_answers (K := K) fn fk fm hfn hfk hfm]
  exact implScopeOk_any hr hp hN hT hl hll fn fk hfn hfk
end Go.Proofs.YtlaeenfeajkcfalGreat.Fr
