/- Made of RNb, RNc, RNd, RNe, RNf. -/
import Derived.Test.YtgeckgdmkjddpaaRNa
namespace Go.Proofs.Ytgeckgdmkjddpaa.Mh
open Go.ChangeShapes Go.WideShapes Go.ChangeAt Go.RowKit
set_option linter.unusedVariables false

/-- No block is of both. -/
def Dj (S T : Nat → Prop) : Prop := ∀ x, S x → T x → False
def sumQ (q : Nat → Nat) : Nat → Nat
  | 0 => 0
  | n + 1 => sumQ q n + q n
theorem sumQ_le (q : Nat → Nat) : ∀ n i, i ≤ n → sumQ q i ≤ sumQ q n := by
  intro n
  induction n with
  | zero => intro i hi; have : i = 0 := by omega
            subst this; exact Nat.le_refl _
  | succ n ih =>
    intro i hi
    by_cases h : i = n + 1
    · subst h; exact Nat.le_refl _
    · exact Nat.le_trans (ih i (by omega)) (Nat.le_add_right _ _)
/-- A row of what can be marked: S: its block, and those of its elements; m: how many marks at most. -/
def SR (sz : Nat) (R : Nat → Nat → (Nat → Prop) → Nat → Prop) (w : World) (S : Nat → Prop) (v : Value) (m : Nat) : Prop :=
  ∃ o n c, v = .slice o n c ∧ n ≤ maxLen ∧ (0 < n → ∃ b off, ∃ T : Nat → Nat → Prop, ∃ q : Nat → Nat, o = some ⟨b, off, none⟩ ∧ S b ∧ (∃ cs e, w.heap[b]? = some (.cells cs e (0, 0))) ∧ (∀ i, i < n → R b (off + i * sz) (T i) (q i)) ∧ (∀ i x, i < n → T i x → S x ∧ x ≠ b) ∧ (∀ i j, i < n → j < n → i ≠ j → Dj (T i) (T j)) ∧ sumQ q n ≤ m)
def strB (w : World) : Nat → Nat → (Nat → Prop) → Nat → Prop := fun b p _ m => (∃ s, w.cell? ⟨b, p, none⟩ = some (.string s)) ∧ 1 ≤ m
structure Sh where
  ex : Nat → Nat → (Nat → Prop) → Nat → Prop
  de : Nat → Nat → (Nat → Prop) → Nat → Prop
  al : Nat → Nat → (Nat → Prop) → Nat → Prop
/-- An expression, a definition, an alternative at a place: T: the blocks of its parts. -/
def sh (w : World) : Nat → Sh
  | 0 => ⟨fun _ _ _ _ => False, fun _ _ _ _ => False, fun _ _ _ _ => False⟩
  | h + 1 => ⟨fun b p T m => ∃ (kk : Int) (s : ByteArray) (nn : Int) (v1 v2 v3 : Value) (S1 S2 S3 : Nat → Prop) (m1 m2 m3 : Nat), w.cell? ⟨b, p, none⟩ = some (.int .i64 kk) ∧ w.cell? ⟨b, p + 1, none⟩ = some (.string s) ∧ w.cell? ⟨b, p + 2, none⟩ = some (.int .i64 nn) ∧ w.cell? ⟨b, p + 3, none⟩ = some v1 ∧ w.cell? ⟨b, p + 4, none⟩ = some v2 ∧ w.cell? ⟨b, p + 5, none⟩ = some v3 ∧
        SR 6 (sh w h).ex w S1 v1 m1 ∧ SR 9 (sh w h).de w S2 v2 m2 ∧ SR 8 (sh w h).al w S3 v3 m3 ∧ (∀ x, S1 x ∨ S2 x ∨ S3 x → T x) ∧ Dj S1 S2 ∧ Dj S1 S3 ∧ Dj S2 S3 ∧ 3 + m1 + m2 + m3 ≤ m,
      fun b p T m => ∃ (s : ByteArray) (v1 v8 : Value) (S1 T2 S8 : Nat → Prop) (m1 m2 m8 : Nat), w.cell? ⟨b, p, none⟩ = some (.string s) ∧ w.cell? ⟨b, p + 1, none⟩ = some v1 ∧ w.cell? ⟨b, p + 8, none⟩ = some v8 ∧ SR 1 (strB w) w S1 v1 m1 ∧ (sh w h).ex b (p + 2) T2 m2 ∧ SR 9 (sh w h).de w S8 v8 m8 ∧ (∀ x, S1 x ∨ T2 x ∨ S8 x → T x) ∧ Dj S1 T2 ∧ Dj S1 S8 ∧ Dj T2 S8 ∧ 1 + m1 + m2 + m8 ≤ m,
      fun b p T m => ∃ (s : ByteArray) (v1 : Value) (S1 T2 : Nat → Prop) (m1 m2 : Nat), w.cell? ⟨b, p, none⟩ = some (.string s) ∧ w.cell? ⟨b, p + 1, none⟩ = some v1 ∧ SR 1 (strB w) w S1 v1 m1 ∧ (sh w h).ex b (p + 2) T2 m2 ∧ (∀ x, S1 x ∨ T2 x → T x) ∧ Dj S1 T2 ∧ 1 + m1 + m2 ≤ m⟩
theorem cell_same {w w' : World} {b : Nat} (h : w'.heap[b]? = w.heap[b]?) (j : Nat) : w'.cell? ⟨b, j, none⟩ = w.cell? ⟨b, j, none⟩ := by
  simp [World.cell?, h]
theorem SR.frame {sz : Nat} {R R' : Nat → Nat → (Nat → Prop) → Nat → Prop} {w w' : World} {S : Nat → Prop} {v : Value} {m : Nat} (h : SR sz R w S v m) (hh : ∀ x, S x → w'.heap[x]? = w.heap[x]?) (hR : ∀ b p T q, S b → (∀ x, T x → S x) → R b p T q → R' b p T q) : SR sz R' w' S v m := by
  obtain ⟨o, n, c, e, h1, h2⟩ := h
  refine ⟨o, n, c, e, h1, fun h0 => ?_⟩
  obtain ⟨b, off, T, q, e1, hS, ⟨cs, ty, hb⟩, e2, e3, e4, e5⟩ := h2 h0
  exact ⟨b, off, T, q, e1, hS, ⟨cs, ty, (hh b hS).trans hb⟩, fun i hi => hR _ _ _ _ hS (fun x hx => (e3 i x hi hx).1) (e2 i hi), e3, e4, e5⟩
/-- Where the cells of the place and the blocks of the parts stay, it can still be marked. -/
theorem sh_frame {w w' : World} : ∀ h, (∀ b p T m, (∀ d v, d < 6 → w.cell? ⟨b, p + d, none⟩ = some v → w'.cell? ⟨b, p + d, none⟩ = some v) → (∀ x, T x → w'.heap[x]? = w.heap[x]?) → (sh w h).ex b p T m → (sh w' h).ex b p T m) ∧ (∀ b p T m, (∀ d v, d < 9 → w.cell? ⟨b, p + d, none⟩ = some v → w'.cell? ⟨b, p + d, none⟩ = some v) → (∀ x, T x → w'.heap[x]? = w.heap[x]?) → (sh w h).de b p T m → (sh w' h).de b p T m) ∧ (∀ b p T m, (∀ d v, d < 8 → w.cell? ⟨b, p + d, none⟩ = some v → w'.cell? ⟨b, p + d, none⟩ = some v) → (∀ x, T x → w'.heap[x]? = w.heap[x]?) → (sh w h).al b p T m → (sh w' h).al b p T m) := by
  intro h
  induction h with
  | zero => exact ⟨fun _ _ _ _ _ _ h => h, fun _ _ _ _ _ _ h => h, fun _ _ _ _ _ _ h => h⟩
  | succ h ih =>
    obtain ⟨i1, i2, i3⟩ := ih
    have j1 : ∀ {S : Nat → Prop}, (∀ x, S x → w'.heap[x]? = w.heap[x]?) → ∀ b p T q, S b → (∀ x, T x → S x) → (sh w h).ex b p T q → (sh w' h).ex b p T q := fun hS b p T q hb hT hx => i1 b p T q (fun d v _ hc => (cell_same (hS b hb) _).trans hc) (fun x hx => hS x (hT x hx)) hx
    have j2 : ∀ {S : Nat → Prop}, (∀ x, S x → w'.heap[x]? = w.heap[x]?) → ∀ b p T q, S b → (∀ x, T x → S x) → (sh w h).de b p T q → (sh w' h).de b p T q := fun hS b p T q hb hT hx => i2 b p T q (fun d v _ hc => (cell_same (hS b hb) _).trans hc) (fun x hx => hS x (hT x hx)) hx
    have j3 : ∀ {S : Nat → Prop}, (∀ x, S x → w'.heap[x]? = w.heap[x]?) → ∀ b p T q, S b → (∀ x, T x → S x) → (sh w h).al b p T q → (sh w' h).al b p T q := fun hS b p T q hb hT hx => i3 b p T q (fun d v _ hc => (cell_same (hS b hb) _).trans hc) (fun x hx => hS x (hT x hx)) hx
    have js : ∀ {S : Nat → Prop}, (∀ x, S x → w'.heap[x]? = w.heap[x]?) → ∀ b p T q, S b → (∀ x, T x → S x) → strB w b p T q → strB w' b p T q := by
      rintro S hS b p T q hb hT ⟨⟨s, hs⟩, h1⟩
      exact ⟨⟨s, (cell_same (hS b hb) _).trans hs⟩, h1⟩
    refine ⟨fun b p T m hc hT hx => ?_, fun b p T m hc hT hx => ?_, fun b p T m hc hT hx => ?_⟩
    · obtain ⟨kk, s, nn, v1, v2, v3, S1, S2, S3, m1, m2, m3, c0, c1, c2, c3, c4, c5, r1, r2, r3, hs, d1, d2, d3, hm⟩ := hx
      have t1 : ∀ x, S1 x → w'.heap[x]? = w.heap[x]? := fun x hx => hT x (hs x (.inl hx))
      have t2 : ∀ x, S2 x → w'.heap[x]? = w.heap[x]? := fun x hx => hT x (hs x (.inr (.inl hx)))
      have t3 : ∀ x, S3 x → w'.heap[x]? = w.heap[x]? := fun x hx => hT x (hs x (.inr (.inr hx)))
      exact ⟨kk, s, nn, v1, v2, v3, S1, S2, S3, m1, m2, m3, hc 0 _ (by omega) c0, hc 1 _ (by omega) c1, hc 2 _ (by omega) c2, hc 3 _ (by omega) c3, hc 4 _ (by omega) c4, hc 5 _ (by omega) c5, r1.frame t1 (j1 t1), r2.frame t2 (j2 t2), r3.frame t3 (j3 t3), hs, d1, d2, d3, hm⟩
    · obtain ⟨s, v1, v8, S1, T2, S8, m1, m2, m8, c0, c1, c8, r1, r2, r8, hs, d1, d2, d3, hm⟩ := hx
      have t1 : ∀ x, S1 x → w'.heap[x]? = w.heap[x]? := fun x hx => hT x (hs x (.inl hx))
      have t2 : ∀ x, T2 x → w'.heap[x]? = w.heap[x]? := fun x hx => hT x (hs x (.inr (.inl hx)))
      have t8 : ∀ x, S8 x → w'.heap[x]? = w.heap[x]? := fun x hx => hT x (hs x (.inr (.inr hx)))
      exact ⟨s, v1, v8, S1, T2, S8, m1, m2, m8, hc 0 _ (by omega) c0, hc 1 _ (by omega) c1, hc 8 _ (by omega) c8, r1.frame t1 (js t1), i1 b (p + 2) T2 m2 (fun d v hd hv => by have := hc (2 + d) v (by omega) (by rw [← Nat.add_assoc]; exact hv); rw [← Nat.add_assoc] at this; exact this) t2 r2, r8.frame t8 (j2 t8), hs, d1, d2, d3, hm⟩
    · obtain ⟨s, v1, S1, T2, m1, m2, c0, c1, r1, r2, hs, d1, hm⟩ := hx
      have t1 : ∀ x, S1 x → w'.heap[x]? = w.heap[x]? := fun x hx => hT x (hs x (.inl hx))
      have t2 : ∀ x, T2 x → w'.heap[x]? = w.heap[x]? := fun x hx => hT x (hs x (.inr hx))
      exact ⟨s, v1, S1, T2, m1, m2, hc 0 _ (by omega) c0, hc 1 _ (by omega) c1, r1.frame t1 (js t1), i1 b (p + 2) T2 m2 (fun d v hd hv => by have := hc (2 + d) v (by omega) (by rw [← Nat.add_assoc]; exact hv); rw [← Nat.add_assoc] at this; exact this) t2 r2, hs, d1, hm⟩
/-- The marks of a place, where its cells and the blocks of its parts stay. -/
theorem hd_keep {w w' : World} : ∀ h, (∀ b p T k k', (∀ d v, d < 6 → w.cell? ⟨b, p + d, none⟩ = some v → w'.cell? ⟨b, p + d, none⟩ = some v) → (∀ x, T x → w'.heap[x]? = w.heap[x]?) → (hd w T h).ex b p k k' → (hd w' T h).ex b p k k') ∧ (∀ b p T k k', (∀ d v, d < 9 → w.cell? ⟨b, p + d, none⟩ = some v → w'.cell? ⟨b, p + d, none⟩ = some v) → (∀ x, T x → w'.heap[x]? = w.heap[x]?) → (hd w T h).de b p k k' → (hd w' T h).de b p k k') ∧ (∀ b p T k k', (∀ d v, d < 8 → w.cell? ⟨b, p + d, none⟩ = some v → w'.cell? ⟨b, p + d, none⟩ = some v) → (∀ x, T x → w'.heap[x]? = w.heap[x]?) → (hd w T h).al b p k k' → (hd w' T h).al b p k k') := by
  intro h
  cases h with
  | zero => exact ⟨fun _ _ _ _ _ _ _ h => h, fun _ _ _ _ _ _ _ h => h, fun _ _ _ _ _ _ _ h => h⟩
  | succ h =>
    have go : ∀ {T : Nat → Prop}, (∀ x, T x → w'.heap[x]? = w.heap[x]?) → ∀ h, (∀ b p k k', T b → (hd w T h).ex b p k k' → (hd w' T h).ex b p k k') ∧ (∀ b p k k', T b → (hd w T h).de b p k k' → (hd w' T h).de b p k k') ∧ (∀ b p k k', T b → (hd w T h).al b p k k' → (hd w' T h).al b p k k') := fun hT h => hd_frame (fun b j v hb hv => (cell_same (hT b hb) j).trans hv) h
    have gs : ∀ {T : Nat → Prop}, (∀ x, T x → w'.heap[x]? = w.heap[x]?) → ∀ b p k k', T b → strA w b p k k' → strA w' b p k k' := fun hT b p k k' hb hx => ⟨hx.1, (cell_same (hT b hb) p).trans hx.2⟩
    have ge : ∀ (g : Nat) b p T k k', (∀ d v, d < 6 → w.cell? ⟨b, p + d, none⟩ = some v → w'.cell? ⟨b, p + d, none⟩ = some v) → (∀ x, T x → w'.heap[x]? = w.heap[x]?) → (hd w T g).ex b p k k' → (hd w' T g).ex b p k k' := by
      intro g b p T k k' hc hT hx
      cases g with
      | zero => exact hx
      | succ g =>
        obtain ⟨c0, c1, c2, v1, v2, v3, k1, k2, c3, c4, c5, r1, r2, r3⟩ := hx
        exact ⟨hc 0 _ (by omega) c0, hc 1 _ (by omega) c1, hc 2 _ (by omega) c2, v1, v2, v3, k1, k2, hc 3 _ (by omega) c3, hc 4 _ (by omega) c4, hc 5 _ (by omega) c5, r1.frame (go hT g).1, r2.frame (go hT g).2.1, r3.frame (go hT g).2.2⟩
    refine ⟨ge (h + 1), fun b p T k k' hc hT hx => ?_, fun b p T k k' hc hT hx => ?_⟩
    · obtain ⟨c0, v1, v8, k1, k2, c1, c8, r1, r2, r3⟩ := hx
      exact ⟨hc 0 _ (by omega) c0, v1, v8, k1, k2, hc 1 _ (by omega) c1, hc 8 _ (by omega) c8, r1.frame (gs hT), ge h b (p + 2) T k1 k2 (fun d v hd hv => by have := hc (2 + d) v (by omega) (by rw [← Nat.add_assoc]; exact hv); rw [← Nat.add_assoc] at this; exact this) hT r2, r3.frame (go hT h).2.1⟩
    · obtain ⟨c0, v1, k1, c1, r1, r2⟩ := hx
      exact ⟨hc 0 _ (by omega) c0, v1, k1, hc 1 _ (by omega) c1, r1.frame (gs hT), ge h b (p + 2) T k1 k' (fun d v hd hv => by have := hc (2 + d) v (by omega) (by rw [← Nat.add_assoc]; exact hv); rw [← Nat.add_assoc] at this; exact this) hT r2⟩
theorem HR.more {sz : Nat} {R R' : Nat → Nat → Nat → Nat → Prop} {S T : Nat → Prop} {v : Value} {k k' : Nat} (h : HR sz R S v k k') (hST : ∀ x, S x → T x) (hR : ∀ b p a c, R b p a c → R' b p a c) : HR sz R' T v k k' := by
  obtain ⟨o, n, c, e, h1, h2, h3, h4⟩ := h
  refine ⟨o, n, c, e, h1, h2, h3, fun h0 => ?_⟩
  obtain ⟨b, off, ks, e1, hS, e2, e3, e4, e5⟩ := h4 h0
  exact ⟨b, off, ks, e1, hST b hS, e2, e3, e4, fun i hi => hR _ _ _ _ (e5 i hi)⟩
/-- With more blocks the marks are marks. -/
theorem hd_more {w : World} {S T : Nat → Prop} (hST : ∀ x, S x → T x) : ∀ h, (∀ b p k k', (hd w S h).ex b p k k' → (hd w T h).ex b p k k') ∧ (∀ b p k k', (hd w S h).de b p k k' → (hd w T h).de b p k k') ∧ (∀ b p k k', (hd w S h).al b p k k' → (hd w T h).al b p k k') := by
  intro h
  induction h with
  | zero => exact ⟨fun _ _ _ _ h => h, fun _ _ _ _ h => h, fun _ _ _ _ h => h⟩
  | succ h ih =>
    obtain ⟨i1, i2, i3⟩ := ih
    refine ⟨fun b p k k' hx => ?_, fun b p k k' hx => ?_, fun b p k k' hx => ?_⟩
    · obtain ⟨c0, c1, c2, v1, v2, v3, k1, k2, c3, c4, c5, r1, r2, r3⟩ := hx
      exact ⟨c0, c1, c2, v1, v2, v3, k1, k2, c3, c4, c5, r1.more hST i1, r2.more hST i2, r3.more hST i3⟩
    · obtain ⟨c0, v1, v8, k1, k2, c1, c8, r1, r2, r3⟩ := hx
      exact ⟨c0, v1, v8, k1, k2, c1, c8, r1.more hST (fun _ _ _ _ h => h), i1 _ _ _ _ r2, r3.more hST i2⟩
    · obtain ⟨c0, v1, k1, c1, r1, r2⟩ := hx
      exact ⟨c0, v1, k1, c1, r1.more hST (fun _ _ _ _ h => h), i1 _ _ _ _ r2⟩
end Go.Proofs.Ytgeckgdmkjddpaa.Mh
namespace Go.Proofs.Ytgeckgdmkjddpaa.Mh
open Go.ChangeShapes Go.WideShapes Go.ChangeAt Go.RowKit
set_option linter.unusedVariables false

structure Inv (sz : Nat) (Hd : World → (Nat → Prop) → Nat → Nat → Nat → Nat → Prop) (Sp : World → Nat → Nat → (Nat → Prop) → Nat → Prop) (w : World) (S : Nat → Prop) (b off n k : Nat) (T : Nat → Nat → Prop) (q : Nat → Nat) (i r : Nat) (wr : World) : Prop where
  ks : ∃ ks : Nat → Nat, ks 0 = k ∧ ks i = r ∧ (∀ j, j ≤ i → ks j ≤ r) ∧ ∀ j, j < i → Hd wr (T j) b (off + j * sz) (ks j) (ks (j + 1))
  rest : ∀ j, i ≤ j → j < n → Sp wr b (off + j * sz) (T j) (q j)
  le : r ≤ k + sumQ q i
  plain : 0 < n → ∃ cs e, wr.heap[b]? = some (.cells cs e (0, 0))
  keep : Keeps (fun x => x < w.heap.size ∧ ¬ S x) w wr
/-- What an element's marks keep. -/
structure Fm (b P sz : Nat) (T : Nat → Prop) (w w' : World) : Prop where
  keep : Keeps (fun x => x < w.heap.size ∧ x ≠ b ∧ ¬ T x) w w'
  cells : ∀ j v, (j < P ∨ P + sz ≤ j) → w.cell? ⟨b, j, none⟩ = some v → w'.cell? ⟨b, j, none⟩ = some v
  plain : ∃ cs e, w'.heap[b]? = some (.cells cs e (0, 0))
theorem Inv.step {sz : Nat} {Hd : World → (Nat → Prop) → Nat → Nat → Nat → Nat → Prop} {Sp : World → Nat → Nat → (Nat → Prop) → Nat → Prop} {w : World} {S : Nat → Prop} {b off n k : Nat} {T : Nat → Nat → Prop} {q : Nat → Nat} {i r r' : Nat} {wr W : World}
    (FH : ∀ (w w' : World) b p T a c, (∀ d v, d < sz → w.cell? ⟨b, p + d, none⟩ = some v → w'.cell? ⟨b, p + d, none⟩ = some v) → (∀ x, T x → w'.heap[x]? = w.heap[x]?) → Hd w T b p a c → Hd w' T b p a c)
    (FSx : ∀ (w w' : World) b p T m, (∀ d v, d < sz → w.cell? ⟨b, p + d, none⟩ = some v → w'.cell? ⟨b, p + d, none⟩ = some v) → (∀ x, T x → w'.heap[x]? = w.heap[x]?) → Sp w b p T m → Sp w' b p T m)
    (h : Inv sz Hd Sp w S b off n k T q i r wr) (hi : i < n) (hSw : ∀ x, S x → x < w.heap.size) (hSb : S b)
    (hT : ∀ i x, i < n → T i x → S x ∧ x ≠ b) (hD : ∀ i j, i < n → j < n → i ≠ j → Dj (T i) (T j))
    (hx : Hd W (T i) b (off + i * sz) r r') (hrr : r ≤ r') (hq : r' ≤ r + q i) (hF : Fm b (off + i * sz) sz (T i) wr W) : Inv sz Hd Sp w S b off n k T q (i + 1) r' W := by
  have hsz := h.keep.size
  have hb : ∀ j x, j < n → j ≠ i → T j x → W.heap[x]? = wr.heap[x]? := fun j x hj hji hx => hF.keep.block x ⟨by have := hSw x (hT j x hj hx).1; omega, (hT j x hj hx).2, fun h9 => hD j i hj hi hji x hx h9⟩
  have hmul : ∀ j, j < i → off + j * sz + sz ≤ off + i * sz := fun j hj => by
    have : (j + 1) * sz ≤ i * sz := Nat.mul_le_mul_right sz hj
    rw [Nat.add_mul, Nat.one_mul] at this
    omega
  have hmul2 : ∀ j, i < j → off + i * sz + sz ≤ off + j * sz := fun j hj => by
    have : (i + 1) * sz ≤ j * sz := Nat.mul_le_mul_right sz hj
    rw [Nat.add_mul, Nat.one_mul] at this
    omega
  refine ⟨?_, fun j hj hn => ?_, ?_, fun _ => hF.plain, ?_⟩
  · obtain ⟨ks, e0, e1, e2, e3⟩ := h.ks
    refine ⟨fun x => if x ≤ i then ks x else r', ?_, ?_, fun j hj => ?_, fun j hj => ?_⟩
    · show (if 0 ≤ i then ks 0 else r') = k
      rw [if_pos (Nat.zero_le _)]
      exact e0
    · show (if i + 1 ≤ i then ks (i + 1) else r') = r'
      rw [if_neg (by omega)]
    · show (if j ≤ i then ks j else r') ≤ r'
      split
      · have := e2 j (by omega); omega
      · exact Nat.le_refl _
    · show Hd W (T j) b (off + j * sz) (if j ≤ i then ks j else r') (if j + 1 ≤ i then ks (j + 1) else r')
      by_cases hji : j = i
      · subst hji
        rw [if_pos (Nat.le_refl _), if_neg (by omega), e1]
        exact hx
      · have hlt : j < i := by omega
        rw [if_pos (by omega), if_pos (by omega)]
        refine FH wr W b _ (T j) _ _ (fun d v hd hv => hF.cells _ v (.inl ?_) hv) (fun x hx => hb j x (by omega) hji hx) (e3 j hlt)
        have := hmul j hlt
        omega
  · refine FSx wr W b _ (T j) _ (fun d v hd hv => hF.cells _ v (.inr ?_) hv) (fun x hx => hb j x hn (by omega) hx) (h.rest j (by omega) hn)
    have := hmul2 j (by omega)
    omega
  · show r' ≤ k + (sumQ q i + q i)
    have := h.le
    omega
  · exact h.keep.trans (hF.keep.mono fun x hx => ⟨by omega, fun e => hx.2 (by rw [e]; exact hSb), fun h9 => hx.2 (hT i x hi h9).1⟩)
/-- Cells of other blocks. -/
theorem cell_other {w : World} {b c j l : Nat} {v u : Value} (hv : w.cell? ⟨c, l, none⟩ = some v) (h : c ≠ b ∨ l ≠ j) : (w.setCell ⟨b, j, none⟩ u).cell? ⟨c, l, none⟩ = some v := by
  rw [World.cell?_setCell_other]
  · exact hv
  · intro e
    cases e
    rcases h with h | h <;> exact h rfl
end Go.Proofs.Ytgeckgdmkjddpaa.Mh
namespace Go.Proofs.Ytgeckgdmkjddpaa.Mh
open Go.ChangeShapes Go.WideShapes Go.ChangeAt Go.RowKit
set_option linter.unusedVariables false

def Mr (sz : Nat) (Hd : World → (Nat → Prop) → Nat → Nat → Nat → Nat → Prop) (S : Nat → Prop) (v : Value) (k m : Nat) (w : World) (e : Ending) (w' : World) : Prop := ∃ k' : Nat, e = .returned (.int .i64 ((k' : Int) + 1)) ∧ k ≤ k' ∧ k' ≤ k + m ∧ HR sz (Hd w' S) S v k k' ∧ Keeps (fun x => x < w.heap.size ∧ ¬ S x) w w'
theorem sumQ_n {q : Nat → Nat} : ∀ n, (∀ i, i < n → 1 ≤ q i) → n ≤ sumQ q n := by
  intro n
  induction n with
  | zero => intro _; exact Nat.zero_le _
  | succ n ih =>
    intro h
    have h1 := ih fun i hi => h i (by omega)
    have h2 := h n (by omega)
    show n + 1 ≤ sumQ q n + q n
    omega
theorem markS_all (S : Nat → Prop) (v : Value) (m k : Nat) (w : World) (hr : SR 1 (strB w) w S v m) (hk : k + m ≤ 8800000) : Calls Try.prog 44 #[v, .int .i64 ((k : Int) + 1)] w (Mr 1 (fun w _ => strA w) S v k m w) := by
  obtain ⟨o, n, c, rfl, hn, h1⟩ := hr
  rcases Nat.eq_zero_or_pos n with h0 | h0
  · subst h0
    have key := Nm.markStrS_any (K := fun _ => False) [] o c k w (fun hne => absurd rfl hne) (fun _ h => h.elim) (by simp; omega)
    refine key.mono ?_
    rintro e w' ⟨rfl, hm, -⟩
    refine ⟨k, by simp, Nat.le_refl _, by omega, ⟨o, 0, c, rfl, hn, Nat.le_refl _, fun _ => rfl, fun h => absurd h (by omega)⟩, hm.keep.mono fun x hx => ⟨fun h => h, hx.1⟩⟩
  · obtain ⟨b, off, T, q, rfl, hS, ⟨cs, ty, hb⟩, e2, e3, e4, e5⟩ := h1 h0
    have hlen : (List.replicate n (⟨#[]⟩ : ByteArray)).length = n := by simp
    have hnm : n ≤ m := Nat.le_trans (sumQ_n n fun i hi => (e2 i hi).2) e5
    have hrow : RowOf (fun x => x = b) w Nm.strQ 1 (some ⟨b, off, none⟩) (List.replicate n (⟨#[]⟩ : ByteArray)) := by
      intro hne
      refine ⟨b, off, rfl, rfl, heap_lt hb, fun i x hx => ?_⟩
      have hi : i < n := by
        have := (List.getElem?_eq_some_iff.1 hx).1
        simpa using this
      obtain ⟨⟨s, hs⟩, -⟩ := e2 i hi
      refine ⟨[.string s], rfl, fun j u hj => ?_, ⟨s, rfl⟩⟩
      match j, hj with
      | 0, hj => cases hj; exact hs
    have key := Nm.markStrS_any (K := fun x => x = b) (List.replicate n (⟨#[]⟩ : ByteArray)) (some ⟨b, off, none⟩) c k w hrow (fun x hx => by subst hx; exact ⟨cs, ty, hb⟩) (by rw [hlen]; omega)
    rw [hlen] at key
    refine key.mono ?_
    rintro e w' ⟨rfl, hm, hc⟩
    refine ⟨k + n, rfl, by omega, by omega, ⟨_, n, c, rfl, hn, by omega, fun h => absurd h (by omega), fun _ => ⟨b, off, fun i => k + i, rfl, hS, rfl, rfl, fun i hi => by (try simp only [List.length_replicate] at *); show _ ≤ _; (try dsimp only); omega, fun i hi => ⟨rfl, ?_⟩⟩⟩, hm.keep.mono fun x hx => ⟨fun e => hx.2 (by rw [e]; exact hS), hx.1⟩⟩
    have := hc b off rfl i hi
    rw [Nat.mul_one]
    exact this
end Go.Proofs.Ytgeckgdmkjddpaa.Mh
namespace Go.Proofs.Ytgeckgdmkjddpaa.Mh
open Go.ChangeShapes Go.WideShapes Go.ChangeAt Go.RowKit
set_option linter.unusedVariables false

theorem SR.toE {w w' : World} {H m : Nat} {S : Nat → Prop} {v : Value} (hh : ∀ x, S x → w'.heap[x]? = w.heap[x]?) (h : SR 6 (sh w H).ex w S v m) : SR 6 (sh w' H).ex w' S v m := h.frame hh fun b p T q hb hT hx => (sh_frame H).1 b p T q (fun d v _ hc => (cell_same (hh b hb) _).trans hc) (fun x hx => hh x (hT x hx)) hx
theorem SR.toD {w w' : World} {H m : Nat} {S : Nat → Prop} {v : Value} (hh : ∀ x, S x → w'.heap[x]? = w.heap[x]?) (h : SR 9 (sh w H).de w S v m) : SR 9 (sh w' H).de w' S v m := h.frame hh fun b p T q hb hT hx => (sh_frame H).2.1 b p T q (fun d v _ hc => (cell_same (hh b hb) _).trans hc) (fun x hx => hh x (hT x hx)) hx
theorem SR.toA {w w' : World} {H m : Nat} {S : Nat → Prop} {v : Value} (hh : ∀ x, S x → w'.heap[x]? = w.heap[x]?) (h : SR 8 (sh w H).al w S v m) : SR 8 (sh w' H).al w' S v m := h.frame hh fun b p T q hb hT hx => (sh_frame H).2.2 b p T q (fun d v _ hc => (cell_same (hh b hb) _).trans hc) (fun x hx => hh x (hT x hx)) hx
theorem HR.toE {w w' : World} {H k k' : Nat} {S T : Nat → Prop} {v : Value} (hh : ∀ x, S x → w'.heap[x]? = w.heap[x]?) (hST : ∀ x, S x → T x) (h : HR 6 (hd w S H).ex S v k k') : HR 6 (hd w' T H).ex T v k k' := (h.frame (hd_frame (fun b j v hb hv => (cell_same (hh b hb) j).trans hv) H).1).more hST (hd_more hST H).1
theorem HR.toD {w w' : World} {H k k' : Nat} {S T : Nat → Prop} {v : Value} (hh : ∀ x, S x → w'.heap[x]? = w.heap[x]?) (hST : ∀ x, S x → T x) (h : HR 9 (hd w S H).de S v k k') : HR 9 (hd w' T H).de T v k k' := (h.frame (hd_frame (fun b j v hb hv => (cell_same (hh b hb) j).trans hv) H).2.1).more hST (hd_more hST H).2.1
theorem HR.toA {w w' : World} {H k k' : Nat} {S T : Nat → Prop} {v : Value} (hh : ∀ x, S x → w'.heap[x]? = w.heap[x]?) (hST : ∀ x, S x → T x) (h : HR 8 (hd w S H).al S v k k') : HR 8 (hd w' T H).al T v k k' := (h.frame (hd_frame (fun b j v hb hv => (cell_same (hh b hb) j).trans hv) H).2.2).more hST (hd_more hST H).2.2
theorem Fm.refl {b P sz : Nat} {T : Nat → Prop} {w : World} (h : ∃ cs e, w.heap[b]? = some (.cells cs e (0, 0))) : Fm b P sz T w w := ⟨Keeps.refl _ _, fun _ _ _ h => h, h⟩
theorem Fm.trans {b P sz : Nat} {T : Nat → Prop} {u v w : World} (h : Fm b P sz T u v) (k : Fm b P sz T v w) : Fm b P sz T u w :=
  ⟨h.keep.trans (k.keep.mono fun x hx => ⟨Nat.lt_of_lt_of_le hx.1 h.keep.size, hx.2⟩), fun j x hj hx => k.cells j x hj (h.cells j x hj hx), k.plain⟩
theorem Fm.set {b P sz j : Nat} {T : Nat → Prop} {u w : World} (h : Fm b P sz T u w) (v : Value) (hj : P ≤ j ∧ j < P + sz) : Fm b P sz T u (w.setCell ⟨b, j, none⟩ v) := by
  refine h.trans ⟨keeps_set w b j v fun h => h.2.1 rfl, fun l x hl hx => cell_other hx (.inr (by omega)), ?_⟩
  obtain ⟨cs, e, hb⟩ := h.plain
  exact ⟨_, e, heap_set_same v hb⟩
theorem Fm.later {b P sz : Nat} {T : Nat → Prop} {u w w' : World} (h : Fm b P sz T u w) (hb : Below w.heap.size w w') : Fm b P sz T u w' := by
  obtain ⟨cs, e, hp⟩ := h.plain
  exact h.trans ⟨keeps_of hb fun _ h => h.1, fun j x _ hx => (cell_same (hb.block b (heap_lt hp)) j).trans hx, ⟨cs, e, (hb.block b (heap_lt hp)).trans hp⟩⟩
theorem Fm.call {b P sz : Nat} {T S : Nat → Prop} {u w w' : World} (h : Fm b P sz T u w) (hST : ∀ x, S x → T x) (hTb : ¬ T b) (hk : Keeps (fun x => x < w.heap.size ∧ ¬ S x) w w') : Fm b P sz T u w' := by
  obtain ⟨cs, e, hp⟩ := h.plain
  have hbb := hk.block b ⟨heap_lt hp, fun h9 => hTb (hST b h9)⟩
  exact h.trans ⟨hk.mono fun x hx => ⟨hx.1, fun h9 => hx.2.2 (hST x h9)⟩, fun j x _ hx => (cell_same hbb j).trans hx, ⟨cs, e, hbb.trans hp⟩⟩

def ME (h : Nat) : Prop := ∀ (S : Nat → Prop) (v : Value) (m k : Nat) (w : World), SR 6 (sh w h).ex w S v m → (∀ x, S x → x < w.heap.size) → k + m ≤ 8800000 → Calls Try.prog 34 #[v, .int .i64 ((k : Int) + 1)] w (Mr 6 (fun w S => (hd w S h).ex) S v k m w)
def MD (h : Nat) : Prop := ∀ (S : Nat → Prop) (v : Value) (m k : Nat) (w : World), SR 9 (sh w h).de w S v m → (∀ x, S x → x < w.heap.size) → k + m ≤ 8800000 → Calls Try.prog 35 #[v, .int .i64 ((k : Int) + 1)] w (Mr 9 (fun w S => (hd w S h).de) S v k m w)
def MA (h : Nat) : Prop := ∀ (S : Nat → Prop) (v : Value) (m k : Nat) (w : World), SR 8 (sh w h).al w S v m → (∀ x, S x → x < w.heap.size) → k + m ≤ 8800000 → Calls Try.prog 36 #[v, .int .i64 ((k : Int) + 1)] w (Mr 8 (fun w S => (hd w S h).al) S v k m w)
/-- A row, opened (with no elements too). -/
theorem SR.open' {sz : Nat} {R : Nat → Nat → (Nat → Prop) → Nat → Prop} {w : World} {S : Nat → Prop} {v : Value} {m : Nat} (h : SR sz R w S v m) : ∃ o n c b off, ∃ T : Nat → Nat → Prop, ∃ q : Nat → Nat, v = .slice o n c ∧ n ≤ maxLen ∧ (0 < n → o = some ⟨b, off, none⟩ ∧ S b ∧ ∃ cs e, w.heap[b]? = some (.cells cs e (0, 0))) ∧ (∀ i, i < n → R b (off + i * sz) (T i) (q i)) ∧ (∀ i x, i < n → T i x → S x ∧ x ≠ b) ∧ (∀ i j, i < n → j < n → i ≠ j → Dj (T i) (T j)) ∧ sumQ q n ≤ m := by
  obtain ⟨o, n, c, e, h1, h2⟩ := h
  rcases Nat.eq_zero_or_pos n with h0 | h0
  · subst h0
    exact ⟨o, 0, c, 0, 0, fun _ _ => False, fun _ => 0, e, h1, fun h => absurd h (by omega), fun i hi => absurd hi (by omega), fun i _ hi => absurd hi (by omega), fun i _ hi => absurd hi (by omega), Nat.zero_le _⟩
  · obtain ⟨b, off, T, q, e1, hS, hb, e2, e3, e4, e5⟩ := h2 h0
    exact ⟨o, n, c, b, off, T, q, e, h1, fun _ => ⟨e1, hS, hb⟩, e2, e3, e4, e5⟩
/-- The end of a row. -/
theorem Inv.done {sz : Nat} {Hd : World → (Nat → Prop) → Nat → Nat → Nat → Nat → Prop} {Sp : World → Nat → Nat → (Nat → Prop) → Nat → Prop} {w wr : World} {S : Nat → Prop} {b off n k m r c : Nat} {o : Option Addr} {T : Nat → Nat → Prop} {q : Nat → Nat} (h : Inv sz Hd Sp w S b off n k T q n r wr) (hn : n ≤ maxLen) (ho : 0 < n → o = some ⟨b, off, none⟩ ∧ S b) (hT : ∀ i x, i < n → T i x → S x ∧ x ≠ b) (hm : sumQ q n ≤ m) (hkr : k ≤ r) (hmo : ∀ T b p a c, (∀ x, T x → S x) → Hd wr T b p a c → Hd wr S b p a c) : Mr sz Hd S (.slice o n c) k m w (.returned (.int .i64 ((r : Int) + 1))) wr := by
  have hle := h.le
  refine ⟨r, rfl, hkr, by omega, ⟨o, n, c, rfl, hn, hkr, fun h0 => ?_, fun h0 => ?_⟩, h.keep⟩
  · subst h0
    have : sumQ q 0 = 0 := rfl
    omega
  · obtain ⟨ks, e0, e1, e2, e3⟩ := h.ks
    exact ⟨b, off, ks, (ho h0).1, (ho h0).2, e0, e1, e2, fun i hi => hmo (T i) _ _ _ _ (fun x hx => (hT i x hi hx).1) (e3 i hi)⟩
end Go.Proofs.Ytgeckgdmkjddpaa.Mh
namespace Go.Proofs.Ytgeckgdmkjddpaa.Mh
open Go.ChangeShapes Go.WideShapes Go.ChangeAt Go.RowKit
set_option linter.unusedVariables false

theorem Fm.mono {b P sz : Nat} {T T' : Nat → Prop} {u w : World} (h : Fm b P sz T u w) (hT : ∀ x, T x → T' x) : Fm b P sz T' u w := ⟨h.keep.mono fun x hx => ⟨hx.1, hx.2.1, fun h9 => hx.2.2 (hT x h9)⟩, h.cells, h.plain⟩
theorem cell_now {w : World} {b j : Nat} {u v : Value} (h : w.cell? ⟨b, j, none⟩ = some u) : (w.setCell ⟨b, j, none⟩ v).cell? ⟨b, j, none⟩ = some v := World.cell?_setCell_same _ _ _ h
/-- The cells of an expression's place. -/
structure Six (w : World) (b P : Nat) (u0 u1 u2 u3 u4 u5 : Value) : Prop where
  c0 : w.cell? ⟨b, P, none⟩ = some u0
  c1 : w.cell? ⟨b, P + 1, none⟩ = some u1
  c2 : w.cell? ⟨b, P + 2, none⟩ = some u2
  c3 : w.cell? ⟨b, P + 3, none⟩ = some u3
  c4 : w.cell? ⟨b, P + 4, none⟩ = some u4
  c5 : w.cell? ⟨b, P + 5, none⟩ = some u5
theorem Six.same {w w' : World} {b P : Nat} {u0 u1 u2 u3 u4 u5 : Value} (h : Six w b P u0 u1 u2 u3 u4 u5) (e : w'.heap[b]? = w.heap[b]?) : Six w' b P u0 u1 u2 u3 u4 u5 := ⟨(cell_same e _).trans h.c0, (cell_same e _).trans h.c1, (cell_same e _).trans h.c2, (cell_same e _).trans h.c3, (cell_same e _).trans h.c4, (cell_same e _).trans h.c5⟩
theorem Six.set0 {w : World} {b P : Nat} {u0 u1 u2 u3 u4 u5 : Value} (h : Six w b P u0 u1 u2 u3 u4 u5) (v : Value) : Six (w.setCell ⟨b, P, none⟩ v) b P v u1 u2 u3 u4 u5 := ⟨cell_now h.c0, cell_other h.c1 (.inr (by omega)), cell_other h.c2 (.inr (by omega)), cell_other h.c3 (.inr (by omega)), cell_other h.c4 (.inr (by omega)), cell_other h.c5 (.inr (by omega))⟩
theorem Six.set1 {w : World} {b P : Nat} {u0 u1 u2 u3 u4 u5 : Value} (h : Six w b P u0 u1 u2 u3 u4 u5) (v : Value) : Six (w.setCell ⟨b, P + 1, none⟩ v) b P u0 v u2 u3 u4 u5 := ⟨cell_other h.c0 (.inr (by omega)), cell_now h.c1, cell_other h.c2 (.inr (by omega)), cell_other h.c3 (.inr (by omega)), cell_other h.c4 (.inr (by omega)), cell_other h.c5 (.inr (by omega))⟩
theorem Six.set2 {w : World} {b P : Nat} {u0 u1 u2 u3 u4 u5 : Value} (h : Six w b P u0 u1 u2 u3 u4 u5) (v : Value) : Six (w.setCell ⟨b, P + 2, none⟩ v) b P u0 u1 v u3 u4 u5 := ⟨cell_other h.c0 (.inr (by omega)), cell_other h.c1 (.inr (by omega)), cell_now h.c2, cell_other h.c3 (.inr (by omega)), cell_other h.c4 (.inr (by omega)), cell_other h.c5 (.inr (by omega))⟩

set_option maxHeartbeats 4000000 in
set_option maxRecDepth 100000 in
theorem mE_of {H : Nat} (ih : ∀ h, h < H → ME h ∧ MD h ∧ MA h) : ME H := by
  intro S v m k w hr hSw hkm
  obtain ⟨o, n, c, b, off, T, q, rfl, hn, ho, e2, e3, e4, e5⟩ := hr.open'
  have HI0 : Hid (Inv 6 (fun w T => (hd w T H).ex) (fun w => (sh w H).ex) w S b off n k T q 0 k w) := ⟨⟨fun _ => k, rfl, rfl, fun _ _ => Nat.le_refl _, fun j hj => absurd hj (by omega)⟩, fun j _ hj => e2 j hj, Nat.le_add_right _ _, fun h0 => (ho h0).2.2, Keeps.refl _ _⟩
  have HO : Hid (0 < n → o = some ⟨b, off, none⟩ ∧ S b) := fun h0 => ⟨(ho h0).1, (ho h0).2.1⟩
  have HT := hide e3
  have HD := hide e4
  have HSW := hide hSw
  have IH := hide ih
  have ml : n ≤ 9223372036854775807 := hn
  clear hr ho e2 e3 e4 hSw ih
  go_enter Try.func34, Try.ntmps34
  go_wp2
  go_loopw [1, 5] (fun t1 t5 wr => ∃ i r : Nat, i ≤ n ∧ t5 = .int .i64 i ∧ t1 = .int .i64 ((r : Int) + 1) ∧ k ≤ r ∧ Hid (Inv 6 (fun w T => (hd w T H).ex) (fun w => (sh w H).ex) w S b off n k T q i r wr)) (fun _ t5 _ => n - (intOf t5).toNat)
  case atStart => exact ⟨0, k, Nat.zero_le _, rfl, rfl, Nat.le_refl _, HI0⟩
  case round =>
    obtain ⟨i, r, hi, rfl, rfl, hkr, HIV⟩ := hrel
    by_cases hlt : i < n
    · obtain ⟨eo, hSb⟩ := HO.out (by omega)
      subst eo
      have hrest := HIV.out.rest i (Nat.le_refl _) hlt
      have hle := HIV.out.le
      have hq1 : sumQ q i + q i ≤ sumQ q n := sumQ_le q n (i + 1) hlt
      cases H with
      | zero => exact hrest.elim
      | succ H =>
        obtain ⟨kk, s, nn, v1, v2, v3, S1, S2, S3, m1, m2, m3, q0, q1, q2, q3, q4, q5, r1, r2, r3, hs, d1, d2, d3, hm⟩ := hrest
        obtain ⟨ihE, ihD, ihA⟩ := IH.out H (by omega)
        have hTb : Hid (¬ T i b) := fun h9 => (HT.out i b hlt h9).2 rfl
        have hTw : Hid (∀ x, T i x → x < wr.heap.size ∧ x ≠ b) := fun x hx => ⟨Nat.lt_of_lt_of_le (HSW.out x (HT.out i x hlt hx).1) HIV.out.keep.size, (HT.out i x hlt hx).2⟩
        have C0 : Hid (Six wr b (off + i * 6) (.int .i64 kk) (.string s) (.int .i64 nn) v1 v2 v3) := ⟨q0, q1, q2, q3, q4, q5⟩
        have HS := hide hs
        have HD1 := hide d1
        have HD2 := hide d2
        have HD3 := hide d3
        have R1 := hide r1
        have R2 := hide r2
        have R3 := hide r3
        have HihE := hide ihE
        have HihD := hide ihD
        have HihA := hide ihA
        have F0 : Hid (Fm b (off + i * 6) 6 (fun _ => False) wr wr) := Fm.refl (HIV.out.plain (by omega))
        obtain ⟨bc, bt, hpc⟩ := F0.out.plain
        have f0 := frozen_of hpc (off + i * 6)
        clear q1 q2 q3 q4 q5 hs d1 d2 d3 r1 r2 r3 ihE ihD ihA hpc
        have F1 : Hid (Fm b (off + i * 6) 6 (fun _ => False) wr (wr.setCell ⟨b, off + i * 6, none⟩ (.int .i64 ((r : Int) + 1)))) := F0.out.set _ (by omega)
        have C1 := hide (C0.out.set0 (.int .i64 ((r : Int) + 1)))
        have hrb : r ≤ 8900000 := by omega
        go_wp2_with fail
        refine Calls.mono (Nm.mt1 r hrb _) ?_
        rintro ee w4 ⟨rfl, hb4⟩
        have HB4 := hide hb4
        clear q0 f0 hb4
        have F4 : Hid (Fm b (off + i * 6) 6 (fun _ => False) wr w4) := F1.out.later HB4.out
        have C4 : Hid (Six w4 b (off + i * 6) (.int .i64 ((r : Int) + 1)) (.string s) (.int .i64 nn) v1 v2 v3) := by
          obtain ⟨cs, e, hp⟩ := F1.out.plain
          exact C1.out.same (HB4.out.block b (heap_lt hp))
        have y5 := C4.out.c1
        obtain ⟨bc5, bt5, hpc5⟩ := F4.out.plain
        have f5 := frozen_of hpc5 (off + i * 6 + 1)
        have F5 := hide (F4.out.set (j := off + i * 6 + 1) (.string (markS (r + 1))) (by omega))
        have C5 := hide (C4.out.set1 (.string (markS (r + 1))))
        have y6 := C5.out.c2
        obtain ⟨bc6, bt6, hpc6⟩ := F5.out.plain
        have f6 := frozen_of hpc6 (off + i * 6 + 2)
        have F6 := hide (F5.out.set (j := off + i * 6 + 2) (.int .i64 ((r : Int) + 1 + 1 + 1)) (by omega))
        have C6 := hide (C5.out.set2 (.int .i64 ((r : Int) + 1 + 1 + 1)))
        have y7 := C6.out.c3
        clear hpc5 hpc6
        obtain ⟨W6, hW6⟩ : ∃ W, W = (w4.setCell ⟨b, off + i * 6 + 1, none⟩ (.string (markS (r + 1)))).setCell ⟨b, off + i * 6 + 2, none⟩ (.int .i64 ((r : Int) + 1 + 1 + 1)) := ⟨_, rfl⟩
        have h6 : Hid (∀ x, T i x → W6.heap[x]? = wr.heap[x]?) := fun x hx => by rw [hW6]; exact F6.out.keep.block x ⟨(hTw.out x hx).1, (hTw.out x hx).2, fun h => h⟩
        have z6 : Hid (wr.heap.size ≤ W6.heap.size) := by rw [hW6]; exact F6.out.keep.size
        have HC12 : Hid (Calls Try.prog 34 #[v1, .int .i64 ((r : Int) + 1 + 1 + 1 + 1)] W6 (Mr 6 (fun w S => (hd w S H).ex) S1 v1 (r + 3) m1 W6)) := by
          have h9 := HihE.out S1 v1 m1 (r + 3) W6 (R1.out.toE fun x hx => h6.out x (HS.out x (.inl hx))) (fun x hx => Nat.lt_of_lt_of_le (hTw.out x (HS.out x (.inl hx))).1 z6.out) (by omega)
          have e9 : (((r + 3) : Nat) : Int) + 1 = ((r : Int) + 1 + 1 + 1 + 1) := by omega
          rw [e9] at h9
          exact h9
        rw [hW6] at HC12
        go_wp2_with fail
        refine Calls.mono HC12.out ?_
        rw [← hW6] at F6 C6 ⊢
        clear HC12 y5 f5 y6 f6 y7
        rintro ee w12 ⟨r12, rfl, hr12, hs12, hh12, hk12⟩
        have HH12 := hide hh12
        have HK12 := hide hk12
        clear hh12 hk12
        have G6 : Hid (Fm b (off + i * 6) 6 (T i) wr W6) := F6.out.mono fun _ h => h.elim
        have F12 : Hid (Fm b (off + i * 6) 6 (T i) wr w12) := G6.out.call (fun x hx => HS.out x (.inl hx)) hTb.out HK12.out
        have C12 := hide (C6.out.same (HK12.out.block b ⟨by obtain ⟨cs, e, hp⟩ := G6.out.plain; exact heap_lt hp, fun h9 => hTb.out (HS.out b (.inl h9))⟩))
        have h12 : Hid (∀ x, T i x → ¬ S1 x → w12.heap[x]? = wr.heap[x]?) := fun x hx hn => (HK12.out.block x ⟨Nat.lt_of_lt_of_le (hTw.out x hx).1 z6.out, hn⟩).trans (h6.out x hx)
        have z12 : Hid (wr.heap.size ≤ w12.heap.size) := F12.out.keep.size
        have y13 := C12.out.c4
        have HC14 : Hid (Calls Try.prog 35 #[v2, .int .i64 ((r12 : Int) + 1)] w12 (Mr 9 (fun w S => (hd w S H).de) S2 v2 r12 m2 w12)) := HihD.out S2 v2 m2 r12 w12 (R2.out.toD fun x hx => h12.out x (HS.out x (.inr (.inl hx))) fun h9 => HD1.out x h9 hx) (fun x hx => Nat.lt_of_lt_of_le (hTw.out x (HS.out x (.inr (.inl hx)))).1 z12.out) (by omega)
        go_wp2_with fail
        refine Calls.mono HC14.out ?_
        clear HC14 y13
        rintro ee w14 ⟨r14, rfl, hr14, hs14, hh14, hk14⟩
        have HH14 := hide hh14
        have HK14 := hide hk14
        clear hh14 hk14
        have F14 : Hid (Fm b (off + i * 6) 6 (T i) wr w14) := F12.out.call (fun x hx => HS.out x (.inr (.inl hx))) hTb.out HK14.out
        have C14 := hide (C12.out.same (HK14.out.block b ⟨by obtain ⟨cs, e, hp⟩ := F12.out.plain; exact heap_lt hp, fun h9 => hTb.out (HS.out b (.inr (.inl h9)))⟩))
        have h14 : Hid (∀ x, T i x → ¬ S1 x → ¬ S2 x → w14.heap[x]? = wr.heap[x]?) := fun x hx hn hn2 => (HK14.out.block x ⟨Nat.lt_of_lt_of_le (hTw.out x hx).1 z12.out, hn2⟩).trans (h12.out x hx hn)
        have z14 : Hid (wr.heap.size ≤ w14.heap.size) := F14.out.keep.size
        have y15 := C14.out.c5
        have HC16 : Hid (Calls Try.prog 36 #[v3, .int .i64 ((r14 : Int) + 1)] w14 (Mr 8 (fun w S => (hd w S H).al) S3 v3 r14 m3 w14)) := HihA.out S3 v3 m3 r14 w14 (R3.out.toA fun x hx => h14.out x (HS.out x (.inr (.inr hx))) (fun h9 => HD2.out x h9 hx) fun h9 => HD3.out x h9 hx) (fun x hx => Nat.lt_of_lt_of_le (hTw.out x (HS.out x (.inr (.inr hx)))).1 z14.out) (by omega)
        go_wp2_with fail
        refine Calls.mono HC16.out ?_
        clear HC16 y15
        rintro ee w16 ⟨r16, rfl, hr16, hs16, hh16, hk16⟩
        have HH16 := hide hh16
        have HK16 := hide hk16
        clear hh16 hk16
        have F16 : Hid (Fm b (off + i * 6) 6 (T i) wr w16) := F14.out.call (fun x hx => HS.out x (.inr (.inr hx))) hTb.out HK16.out
        have C16 := hide (C14.out.same (HK16.out.block b ⟨by obtain ⟨cs, e, hp⟩ := F14.out.plain; exact heap_lt hp, fun h9 => hTb.out (HS.out b (.inr (.inr h9)))⟩))
        have HNEW : Hid ((hd w16 (T i) (H + 1)).ex b (off + i * 6) r r16) := by
          have t1 : ∀ x, S1 x → w16.heap[x]? = w12.heap[x]? := fun x hx => (HK16.out.block x ⟨Nat.lt_of_lt_of_le (hTw.out x (HS.out x (.inl hx))).1 z14.out, fun h9 => HD2.out x hx h9⟩).trans (HK14.out.block x ⟨Nat.lt_of_lt_of_le (hTw.out x (HS.out x (.inl hx))).1 z12.out, fun h9 => HD1.out x hx h9⟩)
          have t2 : ∀ x, S2 x → w16.heap[x]? = w14.heap[x]? := fun x hx => HK16.out.block x ⟨Nat.lt_of_lt_of_le (hTw.out x (HS.out x (.inr (.inl hx)))).1 z14.out, fun h9 => HD3.out x hx h9⟩
          exact ⟨C16.out.c0, C16.out.c1, C16.out.c2, v1, v2, v3, r12, r14, C16.out.c3, C16.out.c4, C16.out.c5, HH12.out.toE t1 fun x hx => HS.out x (.inl hx), HH14.out.toD t2 fun x hx => HS.out x (.inr (.inl hx)), HH16.out.toA (fun _ _ => rfl) fun x hx => HS.out x (.inr (.inr hx))⟩
        have HSTEP : Hid (Inv 6 (fun w T => (hd w T (H + 1)).ex) (fun w => (sh w (H + 1)).ex) w S b off n k T q (i + 1) r16 w16) := HIV.out.step (fun w w' b p T a c h1 h2 h3 => (hd_keep (H + 1)).1 b p T a c h1 h2 h3) (fun w w' b p T m h1 h2 h3 => (sh_frame (H + 1)).1 b p T m h1 h2 h3) hlt HSW.out hSb HT.out HD.out HNEW.out (by omega) (by omega) F16.out
        go_wp2
        go_roundw
        case rel => exact ⟨i + 1, r16, by omega, by go_num, rfl, by omega, HSTEP⟩
        case measure => simp [intOf]; omega
    · have hie : i = n := by omega
      subst hie
      go_wp2
      go_ret
      exact HIV.out.done hn HO.out HT.out e5 hkr fun T b p a c hTS h => (hd_more hTS H).1 b p a c h
end Go.Proofs.Ytgeckgdmkjddpaa.Mh
