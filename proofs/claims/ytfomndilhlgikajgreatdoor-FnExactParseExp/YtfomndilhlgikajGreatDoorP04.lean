import Derived.Test.YtfomndilhlgikajGreatDoorP03
set_option maxHeartbeats 8000000
set_option maxRecDepth 100000
namespace Go.Proofs.YtfomndilhlgikajGreatDoor.Mh
open Go.ChangeShapes Go.WideShapes Go.ChangeAt Go.RowKit
set_option linter.unusedVariables false
def Dj (S T : Nat -> Prop) : Prop := ∀ x, S x -> T x -> False
def jv (q : Nat -> Nat) : Nat -> Nat
 | 0 => 0
 | n + 1 => jv q n + q n
theorem sc (q : Nat -> Nat) : ∀ n i, i <= n -> jv q i <= jv q n := by
 intro n
 induction n with
 | zero => intro i hi; have : i = 0 := by omega
           subst this; exact Nat.le_refl _
 | succ n ih =>
  intro i hi
  by_cases h : i = n + 1
  ·subst h; exact Nat.le_refl _
  ·exact Nat.le_trans (ih i (by omega)) (Nat.le_add_right _ _)
def SR (sz : Nat) (R : Nat -> Nat -> (Nat -> Prop) -> Nat -> Prop) (w : World) (S : Nat -> Prop) (v : Value) (m : Nat) : Prop :=
 ∃ o n c, v = .slice o n c /\ n <= maxLen /\ (0 < n -> ∃ b off, ∃ T : Nat -> Nat -> Prop, ∃ q : Nat -> Nat, o = some ⟨b, off, none⟩ /\ S b /\ (∃ cs e, w.heap[b]? = some (.cells cs e (0, 0))) /\ (∀ i, i < n -> R b (off + i * sz) (T i) (q i)) /\ (∀ i x, i < n -> T i x -> S x /\ x ≠ b) /\ (∀ i j, i < n -> j < n -> i ≠ j -> Dj (T i) (T j)) /\ jv q n <= m)
def ut (w : World) : Nat -> Nat -> (Nat -> Prop) -> Nat -> Prop := fun b p _ m => (∃ s, w.cell? ⟨b, p, none⟩ = some (.string s)) /\ 1 <= m
structure Sh where
 ex : Nat -> Nat -> (Nat -> Prop) -> Nat -> Prop
 de : Nat -> Nat -> (Nat -> Prop) -> Nat -> Prop
 al : Nat -> Nat -> (Nat -> Prop) -> Nat -> Prop
def sh (w : World) : Nat -> Sh
 | 0 => ⟨fun _ _ _ _ => False, fun _ _ _ _ => False, fun _ _ _ _ => False⟩
 | h + 1 => ⟨fun b p T m => ∃ (kk : Int) (s : ByteArray) (nn : Int) (v1 v2 v3 : Value) (S1 S2 S3 : Nat -> Prop) (m1 m2 m3 : Nat), w.cell? ⟨b, p, none⟩ = some (.int .i64 kk) /\ w.cell? ⟨b, p + 1, none⟩ = some (.string s) /\ w.cell? ⟨b, p + 2, none⟩ = some (.int .i64 nn) /\ w.cell? ⟨b, p + 3, none⟩ = some v1 /\ w.cell? ⟨b, p + 4, none⟩ = some v2 /\ w.cell? ⟨b, p + 5, none⟩ = some v3 ∧
  SR 6 (sh w h).ex w S1 v1 m1 /\ SR 9 (sh w h).de w S2 v2 m2 /\ SR 8 (sh w h).al w S3 v3 m3 /\ (∀ x, S1 x \/ S2 x \/ S3 x -> T x) /\ Dj S1 S2 /\ Dj S1 S3 /\ Dj S2 S3 /\ 3 + m1 + m2 + m3 <= m,
  fun b p T m => ∃ (s : ByteArray) (v1 v8 : Value) (S1 T2 S8 : Nat -> Prop) (m1 m2 m8 : Nat), w.cell? ⟨b, p, none⟩ = some (.string s) /\ w.cell? ⟨b, p + 1, none⟩ = some v1 /\ w.cell? ⟨b, p + 8, none⟩ = some v8 /\ SR 1 (ut w) w S1 v1 m1 /\ (sh w h).ex b (p + 2) T2 m2 /\ SR 9 (sh w h).de w S8 v8 m8 /\ (∀ x, S1 x \/ T2 x \/ S8 x -> T x) /\ Dj S1 T2 /\ Dj S1 S8 /\ Dj T2 S8 /\ 1 + m1 + m2 + m8 <= m,
  fun b p T m => ∃ (s : ByteArray) (v1 : Value) (S1 T2 : Nat -> Prop) (m1 m2 : Nat), w.cell? ⟨b, p, none⟩ = some (.string s) /\ w.cell? ⟨b, p + 1, none⟩ = some v1 /\ SR 1 (ut w) w S1 v1 m1 /\ (sh w h).ex b (p + 2) T2 m2 /\ (∀ x, S1 x \/ T2 x -> T x) /\ Dj S1 T2 /\ 1 + m1 + m2 <= m⟩
theorem bu {w w' : World} {b : Nat} (h : w'.heap[b]? = w.heap[b]?) (j : Nat) : w'.cell? ⟨b, j, none⟩ = w.cell? ⟨b, j, none⟩ := by
 simp [World.cell?, h]
theorem SR.frame {sz : Nat} {R R' : Nat -> Nat -> (Nat -> Prop) -> Nat -> Prop} {w w' : World} {S : Nat -> Prop} {v : Value} {m : Nat} (h : SR sz R w S v m) (hh : ∀ x, S x -> w'.heap[x]? = w.heap[x]?) (hR : ∀ b p T q, S b -> (∀ x, T x -> S x) -> R b p T q -> R' b p T q) : SR sz R' w' S v m := by
 obtain ⟨o, n, c, e, h1, h2⟩ := h
 refine ⟨o, n, c, e, h1, fun h0 => ?_⟩
 obtain ⟨b, off, T, q, e1, hS, ⟨cs, ty, hb⟩, e2, e3, e4, e5⟩ := h2 h0
 exact ⟨b, off, T, q, e1, hS, ⟨cs, ty, (hh b hS).trans hb⟩, fun i hi => hR _ _ _ _ hS (fun x hx => (e3 i x hi hx).1) (e2 i hi), e3, e4, e5⟩
theorem jg {w w' : World} : ∀ h, (∀ b p T m, (∀ d v, d < 6 -> w.cell? ⟨b, p + d, none⟩ = some v -> w'.cell? ⟨b, p + d, none⟩ = some v) -> (∀ x, T x -> w'.heap[x]? = w.heap[x]?) -> (sh w h).ex b p T m -> (sh w' h).ex b p T m) /\ (∀ b p T m, (∀ d v, d < 9 -> w.cell? ⟨b, p + d, none⟩ = some v -> w'.cell? ⟨b, p + d, none⟩ = some v) -> (∀ x, T x -> w'.heap[x]? = w.heap[x]?) -> (sh w h).de b p T m -> (sh w' h).de b p T m) /\ (∀ b p T m, (∀ d v, d < 8 -> w.cell? ⟨b, p + d, none⟩ = some v -> w'.cell? ⟨b, p + d, none⟩ = some v) -> (∀ x, T x -> w'.heap[x]? = w.heap[x]?) -> (sh w h).al b p T m -> (sh w' h).al b p T m) := by
 intro h
 induction h with
 | zero => exact ⟨fun _ _ _ _ _ _ h => h, fun _ _ _ _ _ _ h => h, fun _ _ _ _ _ _ h => h⟩
 | succ h ih =>
  obtain ⟨i1, i2, i3⟩ := ih
  have j1 : ∀ {S : Nat -> Prop}, (∀ x, S x -> w'.heap[x]? = w.heap[x]?) -> ∀ b p T q, S b -> (∀ x, T x -> S x) -> (sh w h).ex b p T q -> (sh w' h).ex b p T q := fun hS b p T q hb hT hx => i1 b p T q (fun d v _ hc => (bu (hS b hb) _).trans hc) (fun x hx => hS x (hT x hx)) hx
  have j2 : ∀ {S : Nat -> Prop}, (∀ x, S x -> w'.heap[x]? = w.heap[x]?) -> ∀ b p T q, S b -> (∀ x, T x -> S x) -> (sh w h).de b p T q -> (sh w' h).de b p T q := fun hS b p T q hb hT hx => i2 b p T q (fun d v _ hc => (bu (hS b hb) _).trans hc) (fun x hx => hS x (hT x hx)) hx
  have j3 : ∀ {S : Nat -> Prop}, (∀ x, S x -> w'.heap[x]? = w.heap[x]?) -> ∀ b p T q, S b -> (∀ x, T x -> S x) -> (sh w h).al b p T q -> (sh w' h).al b p T q := fun hS b p T q hb hT hx => i3 b p T q (fun d v _ hc => (bu (hS b hb) _).trans hc) (fun x hx => hS x (hT x hx)) hx
  have js : ∀ {S : Nat -> Prop}, (∀ x, S x -> w'.heap[x]? = w.heap[x]?) -> ∀ b p T q, S b -> (∀ x, T x -> S x) -> ut w b p T q -> ut w' b p T q := by
   rintro S hS b p T q hb hT ⟨⟨s, hs⟩, h1⟩
   exact ⟨⟨s, (bu (hS b hb) _).trans hs⟩, h1⟩
  refine ⟨fun b p T m hc hT hx => ?_, fun b p T m hc hT hx => ?_, fun b p T m hc hT hx => ?_⟩
  ·obtain ⟨kk, s, nn, v1, v2, v3, S1, S2, S3, m1, m2, m3, c0, c1, c2, c3, c4, c5, r1, r2, r3, hs, d1, d2, d3, hm⟩ := hx
   have t1 : ∀ x, S1 x -> w'.heap[x]? = w.heap[x]? := fun x hx => hT x (hs x (.inl hx))
   have t2 : ∀ x, S2 x -> w'.heap[x]? = w.heap[x]? := fun x hx => hT x (hs x (.inr (.inl hx)))
   have t3 : ∀ x, S3 x -> w'.heap[x]? = w.heap[x]? := fun x hx => hT x (hs x (.inr (.inr hx)))
   exact ⟨kk, s, nn, v1, v2, v3, S1, S2, S3, m1, m2, m3, hc 0 _ (by omega) c0, hc 1 _ (by omega) c1, hc 2 _ (by omega) c2, hc 3 _ (by omega) c3, hc 4 _ (by omega) c4, hc 5 _ (by omega) c5, r1.frame t1 (j1 t1), r2.frame t2 (j2 t2), r3.frame t3 (j3 t3), hs, d1, d2, d3, hm⟩
  ·obtain ⟨s, v1, v8, S1, T2, S8, m1, m2, m8, c0, c1, c8, r1, r2, r8, hs, d1, d2, d3, hm⟩ := hx
   have t1 : ∀ x, S1 x -> w'.heap[x]? = w.heap[x]? := fun x hx => hT x (hs x (.inl hx))
   have t2 : ∀ x, T2 x -> w'.heap[x]? = w.heap[x]? := fun x hx => hT x (hs x (.inr (.inl hx)))
   have t8 : ∀ x, S8 x -> w'.heap[x]? = w.heap[x]? := fun x hx => hT x (hs x (.inr (.inr hx)))
   exact ⟨s, v1, v8, S1, T2, S8, m1, m2, m8, hc 0 _ (by omega) c0, hc 1 _ (by omega) c1, hc 8 _ (by omega) c8, r1.frame t1 (js t1), i1 b (p + 2) T2 m2 (fun d v hd hv => by have := hc (2 + d) v (by omega) (by rw [<- Nat.add_assoc]; exact hv); rw [<- Nat.add_assoc] at this; exact this) t2 r2, r8.frame t8 (j2 t8), hs, d1, d2, d3, hm⟩
  ·obtain ⟨s, v1, S1, T2, m1, m2, c0, c1, r1, r2, hs, d1, hm⟩ := hx
   have t1 : ∀ x, S1 x -> w'.heap[x]? = w.heap[x]? := fun x hx => hT x (hs x (.inl hx))
   have t2 : ∀ x, T2 x -> w'.heap[x]? = w.heap[x]? := fun x hx => hT x (hs x (.inr hx))
   exact ⟨s, v1, S1, T2, m1, m2, hc 0 _ (by omega) c0, hc 1 _ (by omega) c1, r1.frame t1 (js t1), i1 b (p + 2) T2 m2 (fun d v hd hv => by have := hc (2 + d) v (by omega) (by rw [<- Nat.add_assoc]; exact hv); rw [<- Nat.add_assoc] at this; exact this) t2 r2, hs, d1, hm⟩
theorem sF {w w' : World} : ∀ h, (∀ b p T k k', (∀ d v, d < 6 -> w.cell? ⟨b, p + d, none⟩ = some v -> w'.cell? ⟨b, p + d, none⟩ = some v) -> (∀ x, T x -> w'.heap[x]? = w.heap[x]?) -> (hd w T h).ex b p k k' -> (hd w' T h).ex b p k k') /\ (∀ b p T k k', (∀ d v, d < 9 -> w.cell? ⟨b, p + d, none⟩ = some v -> w'.cell? ⟨b, p + d, none⟩ = some v) -> (∀ x, T x -> w'.heap[x]? = w.heap[x]?) -> (hd w T h).de b p k k' -> (hd w' T h).de b p k k') /\ (∀ b p T k k', (∀ d v, d < 8 -> w.cell? ⟨b, p + d, none⟩ = some v -> w'.cell? ⟨b, p + d, none⟩ = some v) -> (∀ x, T x -> w'.heap[x]? = w.heap[x]?) -> (hd w T h).al b p k k' -> (hd w' T h).al b p k k') := by
 intro h
 cases h with
 | zero => exact ⟨fun _ _ _ _ _ _ _ h => h, fun _ _ _ _ _ _ _ h => h, fun _ _ _ _ _ _ _ h => h⟩
 | succ h =>
  have go : ∀ {T : Nat -> Prop}, (∀ x, T x -> w'.heap[x]? = w.heap[x]?) -> ∀ h, (∀ b p k k', T b -> (hd w T h).ex b p k k' -> (hd w' T h).ex b p k k') /\ (∀ b p k k', T b -> (hd w T h).de b p k k' -> (hd w' T h).de b p k k') /\ (∀ b p k k', T b -> (hd w T h).al b p k k' -> (hd w' T h).al b p k k') := fun hT h => kv (fun b j v hb hv => (bu (hT b hb) j).trans hv) h
  have gs : ∀ {T : Nat -> Prop}, (∀ x, T x -> w'.heap[x]? = w.heap[x]?) -> ∀ b p k k', T b -> kn w b p k k' -> kn w' b p k k' := fun hT b p k k' hb hx => ⟨hx.1, (bu (hT b hb) p).trans hx.2⟩
  have ge : ∀ (g : Nat) b p T k k', (∀ d v, d < 6 -> w.cell? ⟨b, p + d, none⟩ = some v -> w'.cell? ⟨b, p + d, none⟩ = some v) -> (∀ x, T x -> w'.heap[x]? = w.heap[x]?) -> (hd w T g).ex b p k k' -> (hd w' T g).ex b p k k' := by
   intro g b p T k k' hc hT hx
   cases g with
   | zero => exact hx
   | succ g =>
    obtain ⟨c0, c1, c2, v1, v2, v3, k1, k2, c3, c4, c5, r1, r2, r3⟩ := hx
    exact ⟨hc 0 _ (by omega) c0, hc 1 _ (by omega) c1, hc 2 _ (by omega) c2, v1, v2, v3, k1, k2, hc 3 _ (by omega) c3, hc 4 _ (by omega) c4, hc 5 _ (by omega) c5, r1.frame (go hT g).1, r2.frame (go hT g).2.1, r3.frame (go hT g).2.2⟩
  refine ⟨ge (h + 1), fun b p T k k' hc hT hx => ?_, fun b p T k k' hc hT hx => ?_⟩
  ·obtain ⟨c0, v1, v8, k1, k2, c1, c8, r1, r2, r3⟩ := hx
   exact ⟨hc 0 _ (by omega) c0, v1, v8, k1, k2, hc 1 _ (by omega) c1, hc 8 _ (by omega) c8, r1.frame (gs hT), ge h b (p + 2) T k1 k2 (fun d v hd hv => by have := hc (2 + d) v (by omega) (by rw [<- Nat.add_assoc]; exact hv); rw [<- Nat.add_assoc] at this; exact this) hT r2, r3.frame (go hT h).2.1⟩
  ·obtain ⟨c0, v1, k1, c1, r1, r2⟩ := hx
   exact ⟨hc 0 _ (by omega) c0, v1, k1, hc 1 _ (by omega) c1, r1.frame (gs hT), ge h b (p + 2) T k1 k' (fun d v hd hv => by have := hc (2 + d) v (by omega) (by rw [<- Nat.add_assoc]; exact hv); rw [<- Nat.add_assoc] at this; exact this) hT r2⟩
theorem HR.more {sz : Nat} {R R' : Nat -> Nat -> Nat -> Nat -> Prop} {S T : Nat -> Prop} {v : Value} {k k' : Nat} (h : HR sz R S v k k') (hST : ∀ x, S x -> T x) (hR : ∀ b p a c, R b p a c -> R' b p a c) : HR sz R' T v k k' := by
 obtain ⟨o, n, c, e, h1, h2, h3, h4⟩ := h
 refine ⟨o, n, c, e, h1, h2, h3, fun h0 => ?_⟩
 obtain ⟨b, off, ks, e1, hS, e2, e3, e4, e5⟩ := h4 h0
 exact ⟨b, off, ks, e1, hST b hS, e2, e3, e4, fun i hi => hR _ _ _ _ (e5 i hi)⟩
theorem kO {w : World} {S T : Nat -> Prop} (hST : ∀ x, S x -> T x) : ∀ h, (∀ b p k k', (hd w S h).ex b p k k' -> (hd w T h).ex b p k k') /\ (∀ b p k k', (hd w S h).de b p k k' -> (hd w T h).de b p k k') /\ (∀ b p k k', (hd w S h).al b p k k' -> (hd w T h).al b p k k') := by
 intro h
 induction h with
 | zero => exact ⟨fun _ _ _ _ h => h, fun _ _ _ _ h => h, fun _ _ _ _ h => h⟩
 | succ h ih =>
  obtain ⟨i1, i2, i3⟩ := ih
  refine ⟨fun b p k k' hx => ?_, fun b p k k' hx => ?_, fun b p k k' hx => ?_⟩
  ·obtain ⟨c0, c1, c2, v1, v2, v3, k1, k2, c3, c4, c5, r1, r2, r3⟩ := hx
   exact ⟨c0, c1, c2, v1, v2, v3, k1, k2, c3, c4, c5, r1.more hST i1, r2.more hST i2, r3.more hST i3⟩
  ·obtain ⟨c0, v1, v8, k1, k2, c1, c8, r1, r2, r3⟩ := hx
   exact ⟨c0, v1, v8, k1, k2, c1, c8, r1.more hST (fun _ _ _ _ h => h), i1 _ _ _ _ r2, r3.more hST i2⟩
  ·obtain ⟨c0, v1, k1, c1, r1, r2⟩ := hx
   exact ⟨c0, v1, k1, c1, r1.more hST (fun _ _ _ _ h => h), i1 _ _ _ _ r2⟩
structure Inv (sz : Nat) (Hd : World -> (Nat -> Prop) -> Nat -> Nat -> Nat -> Nat -> Prop) (Sp : World -> Nat -> Nat -> (Nat -> Prop) -> Nat -> Prop) (w : World) (S : Nat -> Prop) (b off n k : Nat) (T : Nat -> Nat -> Prop) (q : Nat -> Nat) (i r : Nat) (wr : World) : Prop where
 ks : ∃ ks : Nat -> Nat, ks 0 = k /\ ks i = r /\ (∀ j, j <= i -> ks j <= r) /\ ∀ j, j < i -> Hd wr (T j) b (off + j * sz) (ks j) (ks (j + 1))
 rest : ∀ j, i <= j -> j < n -> Sp wr b (off + j * sz) (T j) (q j)
 le : r <= k + jv q i
 plain : 0 < n -> ∃ cs e, wr.heap[b]? = some (.cells cs e (0, 0))
 keep : Keeps (fun x => x < w.heap.size /\ ¬ S x) w wr
structure Fm (b P sz : Nat) (T : Nat -> Prop) (w w' : World) : Prop where
 keep : Keeps (fun x => x < w.heap.size /\ x ≠ b /\ ¬ T x) w w'
 cells : ∀ j v, (j < P \/ P + sz <= j) -> w.cell? ⟨b, j, none⟩ = some v -> w'.cell? ⟨b, j, none⟩ = some v
 plain : ∃ cs e, w'.heap[b]? = some (.cells cs e (0, 0))
theorem Inv.step {sz : Nat} {Hd : World -> (Nat -> Prop) -> Nat -> Nat -> Nat -> Nat -> Prop} {Sp : World -> Nat -> Nat -> (Nat -> Prop) -> Nat -> Prop} {w : World} {S : Nat -> Prop} {b off n k : Nat} {T : Nat -> Nat -> Prop} {q : Nat -> Nat} {i r r' : Nat} {wr W : World}
 (FH : ∀ (w w' : World) b p T a c, (∀ d v, d < sz -> w.cell? ⟨b, p + d, none⟩ = some v -> w'.cell? ⟨b, p + d, none⟩ = some v) -> (∀ x, T x -> w'.heap[x]? = w.heap[x]?) -> Hd w T b p a c -> Hd w' T b p a c)
 (Jfs : ∀ (w w' : World) b p T m, (∀ d v, d < sz -> w.cell? ⟨b, p + d, none⟩ = some v -> w'.cell? ⟨b, p + d, none⟩ = some v) -> (∀ x, T x -> w'.heap[x]? = w.heap[x]?) -> Sp w b p T m -> Sp w' b p T m)
 (h : Inv sz Hd Sp w S b off n k T q i r wr) (hi : i < n) (hSw : ∀ x, S x -> x < w.heap.size) (hSb : S b)
 (hT : ∀ i x, i < n -> T i x -> S x /\ x ≠ b) (hD : ∀ i j, i < n -> j < n -> i ≠ j -> Dj (T i) (T j))
 (hx : Hd W (T i) b (off + i * sz) r r') (TA : r <= r') (hq : r' <= r + q i) (hF : Fm b (off + i * sz) sz (T i) wr W) : Inv sz Hd Sp w S b off n k T q (i + 1) r' W := by
 have cI := h.keep.size
 have hb : ∀ j x, j < n -> j ≠ i -> T j x -> W.heap[x]? = wr.heap[x]? := fun j x hj hji hx => hF.keep.block x ⟨by have := hSw x (hT j x hj hx).1; omega, (hT j x hj hx).2, fun h9 => hD j i hj hi hji x hx h9⟩
 have Kk : ∀ j, j < i -> off + j * sz + sz <= off + i * sz := fun j hj => by
  have : (j + 1) * sz <= i * sz := Nat.mul_le_mul_right sz hj
  rw [Nat.add_mul, Nat.one_mul] at this
  omega
 have Ki : ∀ j, i < j -> off + i * sz + sz <= off + j * sz := fun j hj => by
  have : (i + 1) * sz <= j * sz := Nat.mul_le_mul_right sz hj
  rw [Nat.add_mul, Nat.one_mul] at this
  omega
 refine ⟨?_, fun j hj hn => ?_, ?_, fun _ => hF.plain, ?_⟩
 ·obtain ⟨ks, e0, e1, e2, e3⟩ := h.ks
  refine ⟨fun x => if x <= i then ks x else r', ?_, ?_, fun j hj => ?_, fun j hj => ?_⟩
  ·show (if 0 <= i then ks 0 else r') = k
   rw [if_pos (Nat.zero_le _)]
   exact e0
  ·show (if i + 1 <= i then ks (i + 1) else r') = r'
   rw [if_neg (by omega)]
  ·show (if j <= i then ks j else r') <= r'
   split
   ·have := e2 j (by omega); omega
   ·exact Nat.le_refl _
  ·show Hd W (T j) b (off + j * sz) (if j <= i then ks j else r') (if j + 1 <= i then ks (j + 1) else r')
   by_cases hji : j = i
   ·subst hji
    rw [if_pos U0, if_neg (by omega), e1]
    exact hx
   ·have au : j < i := by omega
    rw [if_pos (by omega), if_pos (by omega)]
    refine FH wr W b _ (T j) _ _ (fun d v hd hv => hF.cells _ v (.inl ?_) hv) (fun x hx => hb j x (by omega) hji hx) (e3 j au)
    have := Kk j au
    omega
 ·refine Jfs wr W b _ (T j) _ (fun d v hd hv => hF.cells _ v (.inr ?_) hv) (fun x hx => hb j x hn (by omega) hx) (h.rest j (by omega) hn)
  have := Ki j (by omega)
  omega
 ·show r' <= k + (jv q i + q i)
  have := h.le
  omega
 ·exact h.keep.trans (hF.keep.mono fun x hx => ⟨by omega, fun e => hx.2 (by rw [e]; exact hSb), fun h9 => hx.2 (hT i x hi h9).1⟩)
theorem bI {w : World} {b c j l : Nat} {v u : Value} (hv : w.cell? ⟨c, l, none⟩ = some v) (h : c ≠ b \/ l ≠ j) : (w.setCell ⟨b, j, none⟩ u).cell? ⟨c, l, none⟩ = some v := by
 rw [World.cell?_setCell_other]
 ·exact hv
 ·intro e
  cases e
  rcases h with h | h <;> exact h rfl
def Mr (sz : Nat) (Hd : World -> (Nat -> Prop) -> Nat -> Nat -> Nat -> Nat -> Prop) (S : Nat -> Prop) (v : Value) (k m : Nat) (w : World) (e : Ending) (w' : World) : Prop := ∃ k' : Nat, e = .returned (.int .i64 ((k' : Int) + 1)) /\ k <= k' /\ k' <= k + m /\ HR sz (Hd w' S) S v k k' /\ Keeps (fun x => x < w.heap.size /\ ¬ S x) w w'
theorem F2 {q : Nat -> Nat} : ∀ n, (∀ i, i < n -> 1 <= q i) -> n <= jv q n := by
 intro n
 induction n with
 | zero => intro _; exact Nat.zero_le _
 | succ n ih =>
  intro h
  have h1 := ih fun i hi => h i (by omega)
  have h2 := h n (by omega)
  show n + 1 <= jv q n + q n
  omega
theorem qW (S : Nat -> Prop) (v : Value) (m k : Nat) (w : World) (hr : SR 1 (ut w) w S v m) (hk : k + m <= 4800000) : Calls Tryz.prog 93 #[v, .int .i64 ((k : Int) + 1)] w (Mr 1 (fun w _ => kn w) S v k m w) := by
 obtain ⟨o, n, c, rfl, hn, h1⟩ := hr
 rcases Nat.eq_zero_or_pos n with h0 | h0
 ·subst h0
  have gF := Nm.markStrS_any (K := fun _ => False) [] o c k w (fun bU => absurd rfl bU) (fun _ h => h.elim) (by simp; omega)
  refine gF.mono ?_
  rintro e w' ⟨rfl, hm, -⟩
  refine ⟨k, by simp, Nat.le_refl _, by omega, ⟨o, 0, c, rfl, hn, Nat.le_refl _, fun _ => rfl, fun h => absurd h (by omega)⟩, hm.keep.mono fun x hx => ⟨fun h => h, hx.1⟩⟩
 ·obtain ⟨b, off, T, q, rfl, hS, ⟨cs, ty, hb⟩, e2, e3, e4, e5⟩ := h1 h0
  have bK : (List.replicate n (⟨#[]⟩ : ByteArray)).length = n := by simp
  have vr : n <= m := Nat.le_trans (F2 n fun i hi => (e2 i hi).2) e5
  have cF : RowOf (fun x => x = b) w Nm.strQ 1 (some ⟨b, off, none⟩) (List.replicate n (⟨#[]⟩ : ByteArray)) := by
   intro bU
   refine ⟨b, off, rfl, rfl, ad hb, fun i x hx => ?_⟩
   have hi : i < n := by
    have := (List.getElem?_eq_some_iff.1 hx).1
    simpa using this
   obtain ⟨⟨s, hs⟩, -⟩ := e2 i hi
   refine ⟨[.string s], rfl, fun j u hj => ?_, ⟨s, rfl⟩⟩
   match j, hj with
   | 0, hj => cases hj; exact hs
  have gF := Nm.markStrS_any (K := fun x => x = b) (List.replicate n (⟨#[]⟩ : ByteArray)) (some ⟨b, off, none⟩) c k w cF (fun x hx => by subst hx; exact ⟨cs, ty, hb⟩) (by rw [bK]; omega)
  rw [bK] at gF
  refine gF.mono ?_
  rintro e w' ⟨rfl, hm, hc⟩
  refine ⟨k + n, rfl, by omega, by omega, ⟨_, n, c, rfl, hn, by omega, fun h => absurd h (by omega), fun _ => ⟨b, off, fun i => k + i, rfl, hS, rfl, rfl, fun i hi => by (try simp only [List.length_replicate] at *); show _ <= _; (try dsimp only); omega, fun i hi => ⟨rfl, ?_⟩⟩⟩, hm.keep.mono fun x hx => ⟨fun e => hx.2 (by rw [e]; exact hS), hx.1⟩⟩
  have := hc b off rfl i hi
  rw [Nat.mul_one]
  exact this
theorem SR.toE {w w' : World} {H m : Nat} {S : Nat -> Prop} {v : Value} (hh : ∀ x, S x -> w'.heap[x]? = w.heap[x]?) (h : SR 6 (sh w H).ex w S v m) : SR 6 (sh w' H).ex w' S v m := h.frame hh fun b p T q hb hT hx => (jg H).1 b p T q (fun d v _ hc => (bu (hh b hb) _).trans hc) (fun x hx => hh x (hT x hx)) hx
theorem SR.toD {w w' : World} {H m : Nat} {S : Nat -> Prop} {v : Value} (hh : ∀ x, S x -> w'.heap[x]? = w.heap[x]?) (h : SR 9 (sh w H).de w S v m) : SR 9 (sh w' H).de w' S v m := h.frame hh fun b p T q hb hT hx => (jg H).2.1 b p T q (fun d v _ hc => (bu (hh b hb) _).trans hc) (fun x hx => hh x (hT x hx)) hx
theorem SR.toA {w w' : World} {H m : Nat} {S : Nat -> Prop} {v : Value} (hh : ∀ x, S x -> w'.heap[x]? = w.heap[x]?) (h : SR 8 (sh w H).al w S v m) : SR 8 (sh w' H).al w' S v m := h.frame hh fun b p T q hb hT hx => (jg H).2.2 b p T q (fun d v _ hc => (bu (hh b hb) _).trans hc) (fun x hx => hh x (hT x hx)) hx
theorem HR.toE {w w' : World} {H k k' : Nat} {S T : Nat -> Prop} {v : Value} (hh : ∀ x, S x -> w'.heap[x]? = w.heap[x]?) (hST : ∀ x, S x -> T x) (h : HR 6 (hd w S H).ex S v k k') : HR 6 (hd w' T H).ex T v k k' := (h.frame (kv (fun b j v hb hv => (bu (hh b hb) j).trans hv) H).1).more hST (kO hST H).1
theorem HR.toD {w w' : World} {H k k' : Nat} {S T : Nat -> Prop} {v : Value} (hh : ∀ x, S x -> w'.heap[x]? = w.heap[x]?) (hST : ∀ x, S x -> T x) (h : HR 9 (hd w S H).de S v k k') : HR 9 (hd w' T H).de T v k k' := (h.frame (kv (fun b j v hb hv => (bu (hh b hb) j).trans hv) H).2.1).more hST (kO hST H).2.1
theorem HR.toA {w w' : World} {H k k' : Nat} {S T : Nat -> Prop} {v : Value} (hh : ∀ x, S x -> w'.heap[x]? = w.heap[x]?) (hST : ∀ x, S x -> T x) (h : HR 8 (hd w S H).al S v k k') : HR 8 (hd w' T H).al T v k k' := (h.frame (kv (fun b j v hb hv => (bu (hh b hb) j).trans hv) H).2.2).more hST (kO hST H).2.2
theorem Fm.refl {b P sz : Nat} {T : Nat -> Prop} {w : World} (h : ∃ cs e, w.heap[b]? = some (.cells cs e (0, 0))) : Fm b P sz T w w := ⟨Keeps.refl _ _, fun _ _ _ h => h, h⟩
theorem Fm.trans {b P sz : Nat} {T : Nat -> Prop} {u v w : World} (h : Fm b P sz T u v) (k : Fm b P sz T v w) : Fm b P sz T u w :=
 ⟨h.keep.trans (k.keep.mono fun x hx => ⟨Nat.lt_of_lt_of_le hx.1 h.keep.size, hx.2⟩), fun j x hj hx => k.cells j x hj (h.cells j x hj hx), k.plain⟩
theorem Fm.set {b P sz j : Nat} {T : Nat -> Prop} {u w : World} (h : Fm b P sz T u w) (v : Value) (hj : P <= j /\ j < P + sz) : Fm b P sz T u (w.setCell ⟨b, j, none⟩ v) := by
 refine h.trans ⟨ak w b j v fun h => h.2.1 rfl, fun l x hl hx => bI hx (.inr (by omega)), ?_⟩
 obtain ⟨cs, e, hb⟩ := h.plain
 exact ⟨_, e, ae v hb⟩
theorem Fm.later {b P sz : Nat} {T : Nat -> Prop} {u w w' : World} (h : Fm b P sz T u w) (hb : Below w.heap.size w w') : Fm b P sz T u w' := by
 obtain ⟨cs, e, hp⟩ := h.plain
 exact h.trans ⟨cJ hb fun _ h => h.1, fun j x _ hx => (bu (hb.block b (ad hp)) j).trans hx, ⟨cs, e, (hb.block b (ad hp)).trans hp⟩⟩
theorem Fm.call {b P sz : Nat} {T S : Nat -> Prop} {u w w' : World} (h : Fm b P sz T u w) (hST : ∀ x, S x -> T x) (md : ¬ T b) (hk : Keeps (fun x => x < w.heap.size /\ ¬ S x) w w') : Fm b P sz T u w' := by
 obtain ⟨cs, e, hp⟩ := h.plain
 have Ov := hk.block b ⟨ad hp, fun h9 => md (hST b h9)⟩
 exact h.trans ⟨hk.mono fun x hx => ⟨hx.1, fun h9 => hx.2.2 (hST x h9)⟩, fun j x _ hx => (bu Ov j).trans hx, ⟨cs, e, Ov.trans hp⟩⟩
def ME (h : Nat) : Prop := ∀ (S : Nat -> Prop) (v : Value) (m k : Nat) (w : World), SR 6 (sh w h).ex w S v m -> (∀ x, S x -> x < w.heap.size) -> k + m <= 4800000 -> Calls Tryz.prog 49 #[v, .int .i64 ((k : Int) + 1)] w (Mr 6 (fun w S => (hd w S h).ex) S v k m w)
def MD (h : Nat) : Prop := ∀ (S : Nat -> Prop) (v : Value) (m k : Nat) (w : World), SR 9 (sh w h).de w S v m -> (∀ x, S x -> x < w.heap.size) -> k + m <= 4800000 -> Calls Tryz.prog 39 #[v, .int .i64 ((k : Int) + 1)] w (Mr 9 (fun w S => (hd w S h).de) S v k m w)
def MA (h : Nat) : Prop := ∀ (S : Nat -> Prop) (v : Value) (m k : Nat) (w : World), SR 8 (sh w h).al w S v m -> (∀ x, S x -> x < w.heap.size) -> k + m <= 4800000 -> Calls Tryz.prog 50 #[v, .int .i64 ((k : Int) + 1)] w (Mr 8 (fun w S => (hd w S h).al) S v k m w)
theorem SR.open' {sz : Nat} {R : Nat -> Nat -> (Nat -> Prop) -> Nat -> Prop} {w : World} {S : Nat -> Prop} {v : Value} {m : Nat} (h : SR sz R w S v m) : ∃ o n c b off, ∃ T : Nat -> Nat -> Prop, ∃ q : Nat -> Nat, v = .slice o n c /\ n <= maxLen /\ (0 < n -> o = some ⟨b, off, none⟩ /\ S b /\ ∃ cs e, w.heap[b]? = some (.cells cs e (0, 0))) /\ (∀ i, i < n -> R b (off + i * sz) (T i) (q i)) /\ (∀ i x, i < n -> T i x -> S x /\ x ≠ b) /\ (∀ i j, i < n -> j < n -> i ≠ j -> Dj (T i) (T j)) /\ jv q n <= m := by
 obtain ⟨o, n, c, e, h1, h2⟩ := h
 rcases Nat.eq_zero_or_pos n with h0 | h0
 ·subst h0
  exact ⟨o, 0, c, 0, 0, fun _ _ => False, fun _ => 0, e, h1, fun h => absurd h (by omega), fun i hi => absurd hi (by omega), fun i _ hi => absurd hi (by omega), fun i _ hi => absurd hi (by omega), Nat.zero_le _⟩
 ·obtain ⟨b, off, T, q, e1, hS, hb, e2, e3, e4, e5⟩ := h2 h0
  exact ⟨o, n, c, b, off, T, q, e, h1, fun _ => ⟨e1, hS, hb⟩, e2, e3, e4, e5⟩
theorem Inv.done {sz : Nat} {Hd : World -> (Nat -> Prop) -> Nat -> Nat -> Nat -> Nat -> Prop} {Sp : World -> Nat -> Nat -> (Nat -> Prop) -> Nat -> Prop} {w wr : World} {S : Nat -> Prop} {b off n k m r c : Nat} {o : Option Addr} {T : Nat -> Nat -> Prop} {q : Nat -> Nat} (h : Inv sz Hd Sp w S b off n k T q n r wr) (hn : n <= maxLen) (ho : 0 < n -> o = some ⟨b, off, none⟩ /\ S b) (hT : ∀ i x, i < n -> T i x -> S x /\ x ≠ b) (hm : jv q n <= m) (hkr : k <= r) (hmo : ∀ T b p a c, (∀ x, T x -> S x) -> Hd wr T b p a c -> Hd wr S b p a c) : Mr sz Hd S (.slice o n c) k m w (.returned (.int .i64 ((r : Int) + 1))) wr := by
 have iL := h.le
 refine ⟨r, rfl, hkr, by omega, ⟨o, n, c, rfl, hn, hkr, fun h0 => ?_, fun h0 => ?_⟩, h.keep⟩
 ·subst h0
  have : jv q 0 = 0 := rfl
  omega
 ·obtain ⟨ks, e0, e1, e2, e3⟩ := h.ks
  exact ⟨b, off, ks, (ho h0).1, (ho h0).2, e0, e1, e2, fun i hi => hmo (T i) _ _ _ _ (fun x hx => (hT i x hi hx).1) (e3 i hi)⟩
end Go.Proofs.YtfomndilhlgikajGreatDoor.Mh
