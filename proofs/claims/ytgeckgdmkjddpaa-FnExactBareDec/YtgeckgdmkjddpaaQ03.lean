/- Made of LX, MA, BU. -/
import Derived.Test.YtgeckgdmkjddpaaQ02
import Derived.Laws.IdiomStrings
import Derived.Test.YtgeckgdmkjddpaaQ00
import Derived.LaidEql
import Derived.LaidEqlPtr
import Derived.Laws.StructEq
import Derived.Maps.OwnSet
import Derived.MapKept
namespace Go.Proofs.Ytgeckgdmkjddpaa
open Go.RowKit

def dgt (j : Nat) : UInt8 := UInt8.ofNat (48 + j % 10)
def digs : Nat → Nat → List UInt8 → List UInt8
  | 0, _, out => out
  | f + 1, k, out => if 0 < k then digs f (k / 10) (dgt k :: out) else out
def markT (k : Nat) : List UInt8 := 109 :: digs k k []

theorem one_byte (n : Nat) : (dgt n).toNat = 48 + n % 10 := by
  rw [dgt, UInt8.toNat_ofNat']
  omega
theorem byte_string (j : Nat) (wr : World) : (convert 172 9 (.slice (some ⟨wr.heap.size, 0, none⟩) 1 1)).run Try.prog (wr.alloc (.cells #[.int .u8 (48 + (j : Int) % 10)] 5)) = .ok (.string ⟨#[dgt j]⟩) (wr.alloc (.cells #[.int .u8 (48 + (j : Int) % 10)] 5)) := by
  refine run_convert_bytes_back _ _ _ 5 _ 1 [dgt j] Try.underlying172 Try.underlying5 Try.underlying9 ?_
  intro m hm
  have : m = 0 := by simpa using hm
  subst this
  show (wr.alloc _).cell? (Addr.add ⟨wr.heap.size, 0, none⟩ 0) = some (.int .u8 ((dgt j).toNat : Int))
  rw [one_byte]
  simp [Addr.add]
theorem cat_byte (b : UInt8) (out : List UInt8) : (ByteArray.mk #[b]) ++ (ByteArray.mk out.toArray) = ⟨(b :: out).toArray⟩ := by
  apply ByteArray.ext
  rw [ByteArray.data_append]
  simp

set_option maxHeartbeats 2000000 in
set_option maxRecDepth 100000 in
theorem markText_any (k : Nat) (h1 : 1 ≤ k) (h2 : k ≤ 10000000) (w : World) :
    Calls Try.prog 65 #[.int .i64 k] w fun e w' => e = .returned (.string ⟨(markT k).toArray⟩) ∧ Below w.heap.size w w' := by
  have hle : ¬ (k : Int) ≤ 0 := by omega
  go_enter Try.func65, Try.ntmps65
  go_wp2
  go_loopw [0, 3] (fun t0 t3 wr => ∃ (j f : Nat) (out : List UInt8), j + out.length ≤ k ∧ j ≤ f ∧ t0 = .int .i64 j ∧ t3 = .string ⟨out.toArray⟩ ∧ digs f j out = digs k k [] ∧ Below w.heap.size w wr) (fun t0 _ _ => (intOf t0).toNat)
  case atStart => exact ⟨k, k, [], Nat.le_refl _, Nat.le_refl _, rfl, rfl, rfl, Below.refl _ _⟩
  case round =>
    obtain ⟨j, f, out, hjk, hjf, rfl, rfl, hd, hbw⟩ := hrel
    have HD := hide hd
    have HBW := hide hbw
    clear hd hbw
    by_cases hj : (0 : Int) < j
    · have hcv := byte_string j wr
      have hcat := cat_byte (dgt j) out
      have hlen : 1 + out.length ≤ 9223372036854775807 := by omega
      go_wp2
      refine ⟨⟨j / 10, f - 1, dgt j :: out, by simp; omega, by omega, by go_num, ?_, ?_, HBW.out.alloc HBW.out.size _⟩, ?_⟩
      · rfl
      · rw [← HD.out]
        obtain ⟨f', rfl⟩ : ∃ f', f = f' + 1 := ⟨f - 1, by omega⟩
        rw [digs, if_pos (by omega)]
        rfl
      · simp [intOf]; omega
    · have hcat := cat_byte 109 out
      have hlen : ¬ 9223372036854775807 < 1 + out.length := by omega
      go_wp2
      go_ret
      refine ⟨?_, HBW.out⟩
      have h0 : j = 0 := by omega
      subst h0
      have hdd := HD.out
      have : digs f 0 out = out := by cases f <;> rfl
      rw [this] at hdd
      rw [markT, ← hdd]
      rfl

theorem markText_at (k : Nat) (h2 : k ≤ 9000000) (w : World) :
    Calls Try.prog 65 #[.int .i64 ((k : Int) + 1)] w fun e w' => e = .returned (.string ⟨(markT (k + 1)).toArray⟩) ∧ Below w.heap.size w w' := by
  have h := markText_any (k + 1) (by omega) (by omega) w
  rw [Int.natCast_add] at h
  exact h
def markS (k : Nat) : ByteArray := ⟨(markT (k + 1)).toArray⟩
/-- The marks of n Toks in block g. -/
def MarkMem (w : World) (g n : Nat) : Prop := ∀ i, i < n → ∀ k : Nat, k = 1 + 4 * i →
  w.cell? ⟨g, i * 4, none⟩ = some (.int .i64 k) ∧ w.cell? ⟨g, i * 4 + 1, none⟩ = some (.string (markS k)) ∧ w.cell? ⟨g, i * 4 + 2, none⟩ = some (.int .i64 ((k : Int) + 1 + 1)) ∧ w.cell? ⟨g, i * 4 + 3, none⟩ = some (.int .i64 ((k : Int) + 1 + 1 + 1))
/-- Cells that may be written. -/
def Open (w : World) (g m : Nat) : Prop := ∀ a, a < m → (∃ u, w.cell? ⟨g, a, none⟩ = some u) ∧ w.frozen? ⟨g, a, none⟩ = false
theorem set_cell (W : World) (g a m : Nat) (v u : Value) (h : W.cell? ⟨g, a, none⟩ = some u) : (W.setCell ⟨g, a, none⟩ v).cell? ⟨g, m, none⟩ = if m = a then some v else W.cell? ⟨g, m, none⟩ := by
  by_cases e : m = a
  · subst e
    rw [if_pos rfl]
    exact World.cell?_setCell_same _ _ _ h
  · rw [if_neg e]
    refine World.cell?_setCell_other _ _ _ _ fun h2 => e ?_
    cases h2
    rfl
theorem open_set {W : World} {g m : Nat} (h : Open W g m) (a : Nat) (ha : a < m) (v : Value) : Open (W.setCell ⟨g, a, none⟩ v) g m := by
  intro b hb
  obtain ⟨⟨u, hu⟩, _⟩ := h a ha
  refine ⟨?_, by rw [World.frozen?_setCell]; exact (h b hb).2⟩
  rw [set_cell W g a b v u hu]
  split
  · exact ⟨v, rfl⟩
  · exact (h b hb).1
theorem open_below {w w' : World} {g m B : Nat} (h : Open w g m) (hb : Below B w w') (hg : g < B) : Open w' g m := by
  intro a ha
  obtain ⟨⟨u, hu⟩, hf⟩ := h a ha
  exact ⟨⟨u, (hb.cell (p := ⟨g, a, none⟩) hg).trans hu⟩, (hb.frozen (p := ⟨g, a, none⟩) hg).trans hf⟩
def marked (w2 : World) (g i : Nat) (k : Nat) : World := ((w2.setCell ⟨g, i * 4 + 1, none⟩ (.string (markS k))).setCell ⟨g, i * 4 + 2, none⟩ (.int .i64 ((k : Int) + 1 + 1))).setCell ⟨g, i * 4 + 3, none⟩ (.int .i64 ((k : Int) + 1 + 1 + 1))
theorem mark_step {w wr w2 : World} {g n i k : Nat} (hlt : i < n) (hk : k = 1 + 4 * i) (hop : Open wr g (n * 4)) (hmm : MarkMem wr g i) (hb : Below (wr.setCell ⟨g, i * 4, none⟩ (.int .i64 k)).heap.size (wr.setCell ⟨g, i * 4, none⟩ (.int .i64 k)) w2) (hg : g < wr.heap.size) (hbw : Keeps (fun k => k < w.heap.size ∧ (0 < n → k ≠ g)) w wr) :
    Keeps (fun k => k < w.heap.size ∧ (0 < n → k ≠ g)) w (marked w2 g i k) ∧ Open (marked w2 g i k) g (n * 4) ∧ MarkMem (marked w2 g i k) g (i + 1) := by
  have hsz : (wr.setCell ⟨g, i * 4, none⟩ (.int .i64 k)).heap.size = wr.heap.size := by simp
  have hg2 : g < (wr.setCell ⟨g, i * 4, none⟩ (.int .i64 k)).heap.size := by rw [hsz]; exact hg
  have ho2 := open_below (open_set hop (i * 4) (by omega) (.int .i64 k)) hb hg2
  have ho3 := open_set ho2 (i * 4 + 1) (by omega) (.string (markS k))
  have ho4 := open_set ho3 (i * 4 + 2) (by omega) (.int .i64 ((k : Int) + 1 + 1))
  have ho5 := open_set ho4 (i * 4 + 3) (by omega) (.int .i64 ((k : Int) + 1 + 1 + 1))
  have hcell : ∀ m, (marked w2 g i k).cell? ⟨g, m, none⟩ = if m = i * 4 + 3 then some (.int .i64 ((k : Int) + 1 + 1 + 1)) else if m = i * 4 + 2 then some (.int .i64 ((k : Int) + 1 + 1)) else if m = i * 4 + 1 then some (.string (markS k)) else if m = i * 4 then some (.int .i64 k) else wr.cell? ⟨g, m, none⟩ := by
    intro m
    obtain ⟨⟨u1, c1⟩, _⟩ := ho2 (i * 4 + 1) (by omega)
    obtain ⟨⟨u2, c2⟩, _⟩ := ho3 (i * 4 + 2) (by omega)
    obtain ⟨⟨u3, c3⟩, _⟩ := ho4 (i * 4 + 3) (by omega)
    obtain ⟨⟨u0, c0⟩, _⟩ := hop (i * 4) (by omega)
    unfold marked
    rw [set_cell _ g _ m _ u3 c3, set_cell _ g _ m _ u2 c2, set_cell _ g _ m _ u1 c1, hb.cell (p := ⟨g, m, none⟩) hg2, set_cell _ g _ m _ u0 c0]
  refine ⟨?_, ho5, ?_⟩
  · have hkg : ¬ (g < w.heap.size ∧ (0 < n → g ≠ g)) := fun h => h.2 (by omega) rfl
    have h1 := hbw.trans (keeps_set wr g (i * 4) (.int .i64 k) hkg)
    have h2 := h1.trans (keeps_of hb (fun k hk => by rw [hsz]; exact Nat.lt_of_lt_of_le hk.1 hbw.size))
    exact ((h2.trans (keeps_set _ _ _ _ hkg)).trans (keeps_set _ _ _ _ hkg)).trans (keeps_set _ _ _ _ hkg)
  · intro i' hi' k' hk'
    by_cases e : i' = i
    · subst e
      have : k' = k := by omega
      subst this
      refine ⟨?_, ?_, ?_, ?_⟩
      · rw [hcell, if_neg (by omega), if_neg (by omega), if_neg (by omega), if_pos rfl]
      · rw [hcell, if_neg (by omega), if_neg (by omega), if_pos rfl]
      · rw [hcell, if_neg (by omega), if_pos rfl]
      · rw [hcell, if_pos rfl]
    · obtain ⟨h0, h1, h2, h3⟩ := hmm i' (by omega) k' hk'
      refine ⟨?_, ?_, ?_, ?_⟩
      · rw [hcell, if_neg (by omega), if_neg (by omega), if_neg (by omega), if_neg (by omega)]; exact h0
      · rw [hcell, if_neg (by omega), if_neg (by omega), if_neg (by omega), if_neg (by omega)]; exact h1
      · rw [hcell, if_neg (by omega), if_neg (by omega), if_neg (by omega), if_neg (by omega)]; exact h2
      · rw [hcell, if_neg (by omega), if_neg (by omega), if_neg (by omega), if_neg (by omega)]; exact h3
theorem markMem_below {w w' : World} {g n : Nat} (h : MarkMem w g n) {B : Nat} (hb : Below B w w') (hg : g < B) : MarkMem w' g n := by
  intro i hi k hk
  obtain ⟨h0, h1, h2, h3⟩ := h i hi k hk
  exact ⟨(hb.cell (p := ⟨g, _, none⟩) hg).trans h0, (hb.cell (p := ⟨g, _, none⟩) hg).trans h1, (hb.cell (p := ⟨g, _, none⟩) hg).trans h2, (hb.cell (p := ⟨g, _, none⟩) hg).trans h3⟩
theorem markText_s (k : Nat) (h2 : k ≤ 9000000) (w : World) :
    Calls Try.prog 65 #[.int .i64 ((k : Int) + 1)] w fun e w' => e = .returned (.string (markS k)) ∧ Below w.heap.size w w' := markText_at k h2 w
theorem toksAt_open {w : World} {base : Nat} {e : TypeId} {v : Value} {ts : List TokZ} (h : w.ownsRow base e 4 v ts.length (rowZ ts)) : ∃ o b cap, v = .slice o ts.length cap ∧ ToksAt w o b 0 ts ∧ (ts ≠ [] → base ≤ b) ∧ Open w b (ts.length * 4) := by
  obtain ⟨o, b, cap, hv, hm, hb⟩ := toksAt_of h
  refine ⟨o, b, cap, hv, hm, fun hne => (owns_lt h b (hb hne)).2, fun a ha => ?_⟩
  obtain ⟨hl, hc⟩ := h
  rcases hc with ⟨_, h0⟩ | ⟨g, cp, cur, hv2, hb1, hg, hn, hcap, hsz, htk⟩
  · omega
  · have hne : ts ≠ [] := by intro e; rw [e] at ha; simp at ha
    have hbg : b = g := by
      have := hb hne
      rw [hv2] at this
      exact (Option.some.inj this).symm
    subst hbg
    have hlt : a < cur.size := by
      rw [hsz]
      have : ts.length * 4 ≤ cp * 4 := Nat.mul_le_mul_right 4 hn
      omega
    exact ⟨⟨cur[a], by rw [cell_of hg]; exact Array.getElem?_eq_getElem hlt⟩, frozen_of hg a⟩
theorem toksAt_keeps {w w' : World} {K : Nat → Prop} {o : Option Addr} {b off : Nat} {ts : List TokZ} (h : ToksAt w o b off ts) (hk : Keeps K w w') (hb : ts ≠ [] → K b) : ToksAt w' o b off ts :=
  toksAt_block h hk.size fun hne => hk.block b (hb hne)
theorem ne_nil {ts : List TokZ} (h : 0 < ts.length) : ts ≠ [] := List.ne_nil_of_length_pos h
end Go.Proofs.Ytgeckgdmkjddpaa
namespace Go.Proofs.Ytgeckgdmkjddpaa
open Go.RowKit

def PlainAt (w : World) (a : Addr) : Prop := ∃ c e, w.heap[a.block]? = some (.cells c e (0, 0))
theorem eqPtr {P : Program} (w : World) (d : Nat) {tp te : TypeId} {j : TypeInfo} {a b : Addr} (hp : P.underlying tp = some (.pointer te)) (hte : P.info? te = some j) (hsz : j.size ≠ 0) (ha : PlainAt w a) (hb : PlainAt w b) :
    (Op.equalIn (d + 1) tp (.pointer (some a)) (.pointer (some b))).run P w = .ok (a == b) w := by
  obtain ⟨ca, ta, ha⟩ := ha
  obtain ⟨cb, tb, hb⟩ := hb
  by_cases e : a = b
  · subst e
    simp [Op.equalIn, run_underlying hp, typeInfo, sizeOf, run_sameAddr_same, hte]
  · simp [Op.equalIn, run_underlying hp, typeInfo, sizeOf, hte, hsz, run_sameAddr_other w e ha hb, e]
def keyV (k : Addr × Addr) : Value := .agg #[.pointer (some k.1), .pointer (some k.2)]
/-- A type of two pointers to what is not of size 0. -/
structure PairTy (P : Program) (t : TypeId) : Prop where
  fields : ∃ f0 f1 tp te j, P.underlying t = some (.struct #[f0, f1]) ∧ f0.name ≠ "_" ∧ f1.name ≠ "_" ∧ f0.type = tp ∧ f1.type = tp ∧ f0.offset = 0 ∧ f1.offset = 1 ∧ P.underlying tp = some (.pointer te) ∧ P.info? te = some j ∧ j.size ≠ 0
  plain : P.stoodInHeld t = false
theorem eqPair {P : Program} {t : TypeId} (ht : PairTy P t) (w : World) (k l : Addr × Addr) (h1 : PlainAt w k.1) (h2 : PlainAt w k.2) (h3 : PlainAt w l.1) (h4 : PlainAt w l.2) :
    (Op.equal t (keyV k) (keyV l)).run P w = .ok (k.1 == l.1 && k.2 == l.2) w := by
  obtain ⟨f0, f1, tp, te, j, hu, n0, n1, rfl, e1, o0, o1, hp, hj, hs⟩ := ht.fields
  have hf : P.fieldsOf t = #[f0, f1] := by unfold Program.fieldsOf; rw [hu]
  have hu2 : P.underlying t = some (.struct (P.fieldsOf t)) := by rw [hf]; exact hu
  unfold Op.equal Op.maxDepth keyV
  rw [show (10000 : Nat) = 9999 + 1 from rfl, run_equalIn_struct w 9999 t _ _ hu2 ht.plain, hf]
  have ia : ∀ w, (isAgg f0.type).run P w = .ok false w := fun w => by simp [isAgg, run_underlying hp]
  have pa : ∀ (x y : Addr), (part f0.type #[.pointer (some x), .pointer (some y)] 0).run P w = .ok (.pointer (some x)) w := fun x y => by simp [part, ia]
  have pb : ∀ (x y : Addr), (part f0.type #[.pointer (some x), .pointer (some y)] 1).run P w = .ok (.pointer (some y)) w := fun x y => by simp [part, ia]
  simp only [Op.eqFields, e1, o0, o1, n0, n1, ne_eq, not_false_eq_true, if_true, Sem.run_bind, pa, pb, Result.andThen_ok, eqPtr w 9998 hp hj hs h1 h3, eqPtr w 9998 hp hj hs h2 h4, Sem.run_ite, Sem.run_pure]
  cases (k.1 == l.1) <;> cases (k.2 == l.2) <;> simp

/-- A map's entries, by their keys, each of which stands for nothing. -/
def KeysAre (es : List MapEntry) (ks : List (Addr × Addr)) : Prop := es.map (·.key) = ks.map keyV ∧ ∀ e ∈ es, e.val = .agg #[]
def hasK (ks : List (Addr × Addr)) (k : Addr × Addr) : Bool := ks.any fun l => k.1 == l.1 && k.2 == l.2
theorem asking {P : Program} {t : TypeId} (ht : PairTy P t) (w : World) (k : Addr × Addr) (h1 : PlainAt w k.1) (h2 : PlainAt w k.2) : ∀ (es : List MapEntry) (ks : List (Addr × Addr)) (i : Nat), KeysAre es ks → (∀ l ∈ ks, PlainAt w l.1 ∧ PlainAt w l.2) →
    (hasK ks k = false ∧ (Instr.findAsking t (keyV k) es i).run P w = .ok none w) ∨ (hasK ks k = true ∧ ∃ j, (Instr.findAsking t (keyV k) es i).run P w = .ok (some (j, .agg #[])) w) := by
  intro es
  induction es with
  | nil =>
    intro ks i hk _
    have : ks = [] := by
      have h := hk.1
      simp at h
      exact h
    subst this
    exact Or.inl ⟨rfl, by simp [Instr.findAsking]⟩
  | cons e r ih =>
    intro ks i hk hp
    cases ks with
    | nil => have h := hk.1; simp at h
    | cons l ls =>
      have hkey : e.key = keyV l := by have h := hk.1; simp at h; exact h.1
      have hval : e.val = .agg #[] := hk.2 e (by simp)
      have hp0 := hp l (by simp)
      have hr : KeysAre r ls := ⟨by have h := hk.1; simp at h; exact h.2, fun x hx => hk.2 x (by simp [hx])⟩
      have heq := eqPair ht w k l h1 h2 hp0.1 hp0.2
      have hex : hasK (l :: ls) k = ((k.1 == l.1 && k.2 == l.2) || hasK ls k) := rfl
      cases hc : (k.1 == l.1 && k.2 == l.2)
      · rw [hc] at heq
        rw [hex, hc, Bool.false_or]
        have hstep : (Instr.findAsking t (keyV k) (e :: r) i).run P w = (Instr.findAsking t (keyV k) r (i + 1)).run P w := by
          simp [Instr.findAsking, hkey, heq]
        rw [hstep]
        exact ih ls (i + 1) hr (fun l hl => hp l (by simp [hl]))
      · rw [hc] at heq
        rw [hex, hc, Bool.true_or]
        exact Or.inr ⟨rfl, i, by simp [Instr.findAsking, hkey, heq, hval]⟩
theorem find_pair {P : Program} {t : TypeId} (ht : PairTy P t) (w : World) (k : Addr × Addr) (h1 : PlainAt w k.1) (h2 : PlainAt w k.2) (es : List MapEntry) (ks : List (Addr × Addr)) (hk : KeysAre es ks) (hp : ∀ l ∈ ks, PlainAt w l.1 ∧ PlainAt w l.2) :
    (hasK ks k = false ∧ (Instr.findKey t (keyV k) es).run P w = .ok none w) ∨ (hasK ks k = true ∧ ∃ j, (Instr.findKey t (keyV k) es).run P w = .ok (some (j, .agg #[])) w) := by
  obtain ⟨f0, f1, tp, te, j, hu, -⟩ := ht.fields
  have key := asking ht w k h1 h2 es ks 0 hk hp
  cases es with
  | nil =>
    have : ks = [] := by
      have h := hk.1
      simp at h
      exact h
    subst this
    exact Or.inl ⟨rfl, by simp [Instr.findKey, run_underlying hu, Instr.findNow]⟩
  | cons e r =>
    have hn : Instr.findNow (.struct #[f0, f1]) (keyV k) (e :: r) 0 = none := by simp [Instr.findNow, Instr.sameNow]
    have hstep : (Instr.findKey t (keyV k) (e :: r)).run P w = (Instr.findAsking t (keyV k) (e :: r) 0).run P w := by
      simp [Instr.findKey, run_underlying hu, hn]
    rw [hstep]
    exact key
theorem check_pair_n {P : Program} {t : TypeId} (ht : PairTy P t) (b : Bool) (w : World) (k : Addr × Addr) (n : Nat) : (Instr.checkKey b (n + 2) t (keyV k)).run P w = .ok () w := by
  obtain ⟨f0, f1, tp, te, j, hu, n0, n1, rfl, e1, o0, o1, hp, hj, hs⟩ := ht.fields
  have ia : ∀ w, (isAgg f0.type).run P w = .ok false w := fun w => by simp [isAgg, run_underlying hp]
  have pa : ∀ (x y : Addr), (part f0.type #[.pointer (some x), .pointer (some y)] 0).run P w = .ok (.pointer (some x)) w := fun x y => by simp [part, ia]
  have pb : ∀ (x y : Addr), (part f0.type #[.pointer (some x), .pointer (some y)] 1).run P w = .ok (.pointer (some y)) w := fun x y => by simp [part, ia]
  have cp : ∀ x : Addr, (Instr.checkKey b (n + 1) f0.type (.pointer (some x))).run P w = .ok () w := fun x => by simp [Instr.checkKey, run_underlying hp]
  unfold keyV
  rw [Instr.checkKey]
  simp [run_underlying hu, n0, n1, e1, o0, o1, pa, pb, cp]
theorem check_pair {P : Program} {t : TypeId} (ht : PairTy P t) (b : Bool) (w : World) (k : Addr × Addr) : (Instr.checkKey b 10000 t (keyV k)).run P w = .ok () w := check_pair_n ht b w k 9998

/-- A map that is asked whether two pointers stand in it. -/
theorem look_none {P : Program} {T t u : TypeId} (hT : P.underlying T = some (.map t u)) (ht : PairTy P t) (hz : ∀ w, (zeroValue u).run P w = .ok (.agg #[]) w) (w : World) (k : Addr × Addr) :
    (Instr.lookup T (.map none) (keyV k) true).run P w = .ok (.tuple #[.agg #[], .bool false]) w := by
  obtain ⟨f0, f1, tp, te, j, hu, -⟩ := ht.fields
  have hf : (Instr.findKey t (keyV k) []).run P w = .ok none w := by simp [Instr.findKey, run_underlying hu, Instr.findNow]
  simp [Instr.lookup, run_underlying hT, check_pair ht, hf, hz]
theorem look_some {P : Program} {T t u : TypeId} (hT : P.underlying T = some (.map t u)) (ht : PairTy P t) (hz : ∀ w, (zeroValue u).run P w = .ok (.agg #[]) w) (w : World) (k : Addr × Addr) (m : Nat) (es : Array MapEntry) (clock : Nat) (ks : List (Addr × Addr)) (hm : w.heap[m]? = some (.map es clock)) (hk : KeysAre es.toList ks) (h1 : PlainAt w k.1) (h2 : PlainAt w k.2) (hp : ∀ l ∈ ks, PlainAt w l.1 ∧ PlainAt w l.2) :
    (Instr.lookup T (.map (some m)) (keyV k) true).run P w = .ok (.tuple #[.agg #[], .bool (hasK ks k)]) w := by
  have hg : (getObj m).run P w = .ok (.map es clock) w := by simp [getObj, Sem.run, hm]
  rcases find_pair ht w k h1 h2 es.toList ks hk hp with ⟨e, hf⟩ | ⟨e, j, hf⟩
  · rw [e]
    simp [Instr.lookup, run_underlying hT, hg, check_pair ht, hf, hz]
  · rw [e]
    simp [Instr.lookup, run_underlying hT, hg, check_pair ht, hf]

/-- Two pointers put into a map in which they don't stand. -/
theorem put_new {P : Program} {T t u : TypeId} (hT : P.underlying T = some (.map t u)) (ht : PairTy P t) (w : World) (k : Addr × Addr) (m : Nat) (es : Array MapEntry) (clock : Nat) (ks : List (Addr × Addr)) (hm : w.heap[m]? = some (.map es clock)) (hk : KeysAre es.toList ks) (h1 : PlainAt w k.1) (h2 : PlainAt w k.2) (hp : ∀ l ∈ ks, PlainAt w l.1 ∧ PlainAt w l.2) (hno : hasK ks k = false) :
    (Instr.mapUpdate T (.map (some m)) (keyV k) (.agg #[])).run P w = (setObj m (.map (es.push ⟨keyV k, .agg #[], clock⟩) (clock + 1))).run P w := by
  have hg : (getObj m).run P w = .ok (.map es clock) w := by simp [getObj, Sem.run, hm]
  rcases find_pair ht w k h1 h2 es.toList ks hk hp with ⟨e, hf⟩ | ⟨e, j, hf⟩
  · simp [Instr.mapUpdate, run_underlying hT, hg, check_pair ht, hf]
  · rw [hno] at e
    cases e
theorem keys_push {es : Array MapEntry} {ks : List (Addr × Addr)} (hk : KeysAre es.toList ks) (k : Addr × Addr) (c : Nat) : KeysAre (es.push ⟨keyV k, .agg #[], c⟩).toList (ks ++ [k]) := by
  refine ⟨?_, ?_⟩
  · rw [Array.toList_push, List.map_append, List.map_append, hk.1]
    rfl
  · intro e he
    rw [Array.toList_push, List.mem_append] at he
    rcases he with he | he
    · exact hk.2 e he
    · simp at he
      rw [he]
end Go.Proofs.Ytgeckgdmkjddpaa
namespace Go.Proofs.Ytgeckgdmkjddpaa.Nm
open Go.ChangeShapes Go.WideShapes Go.ChangeAt Go.RowKit

/-- Values of one kind. -/
def Sk (v v' : Value) : Prop := v' = v ∨ (∃ i j : Int, v = .int .i64 i ∧ v' = .int .i64 j) ∨ (∃ s t : ByteArray, v = .string s ∧ v' = .string t)
theorem Sk.refl (v : Value) : Sk v v := .inl rfl
theorem Sk.trans {a b c : Value} (h : Sk a b) (k : Sk b c) : Sk a c := by
  rcases h with rfl | ⟨i, j, rfl, rfl⟩ | ⟨s, t, rfl, rfl⟩
  · exact k
  · rcases k with rfl | ⟨i', j', h1, rfl⟩ | ⟨s, t, h1, -⟩
    · exact .inr (.inl ⟨i, j, rfl, rfl⟩)
    · exact .inr (.inl ⟨i, j', rfl, rfl⟩)
    · cases h1
  · rcases k with rfl | ⟨i', j', h1, -⟩ | ⟨s', t', h1, rfl⟩
    · exact .inr (.inr ⟨s, t, rfl, rfl⟩)
    · cases h1
    · exact .inr (.inr ⟨s, t', rfl, rfl⟩)
theorem Sk.slice {o : Option Addr} {n c : Nat} {v : Value} (h : Sk (.slice o n c) v) : v = .slice o n c := by
  rcases h with h | ⟨i, j, h, -⟩ | ⟨s, t, h, -⟩
  · exact h
  · cases h
  · cases h
theorem Sk.int {i : Int} {v : Value} (h : Sk (.int .i64 i) v) : ∃ j, v = .int .i64 j := by
  rcases h with h | ⟨i, j, h, rfl⟩ | ⟨s, t, h, -⟩
  · exact ⟨_, h⟩
  · exact ⟨_, rfl⟩
  · cases h
theorem Sk.str {s : ByteArray} {v : Value} (h : Sk (.string s) v) : ∃ t, v = .string t := by
  rcases h with h | ⟨i, j, h, -⟩ | ⟨s, t, h, rfl⟩
  · exact ⟨_, h⟩
  · cases h
  · exact ⟨_, rfl⟩
/-- Marks are put into blocks of K. -/
structure Mk (K : Nat → Prop) (w w' : World) : Prop where
  keep : Keeps (fun b => ¬ K b ∧ b < w.heap.size) w w'
  kin : ∀ (a : Addr) (v : Value), K a.block → w.cell? a = some v → ∃ v', w'.cell? a = some v' ∧ Sk v v'
  plain : ∀ b, K b → PlainAt w ⟨b, 0, none⟩ → PlainAt w' ⟨b, 0, none⟩
theorem Mk.refl (K : Nat → Prop) (w : World) : Mk K w w := ⟨Keeps.refl _ _, fun _ v _ h => ⟨v, h, Sk.refl v⟩, fun _ _ h => h⟩
theorem Mk.trans {K : Nat → Prop} {a b c : World} (h : Mk K a b) (k : Mk K b c) : Mk K a c :=
  ⟨h.keep.trans (k.keep.mono fun x hx => ⟨hx.1, Nat.lt_of_lt_of_le hx.2 h.keep.size⟩), fun x v hx hv => by
    obtain ⟨v1, h1, s1⟩ := h.kin x v hx hv
    obtain ⟨v2, h2, s2⟩ := k.kin x v1 hx h1
    exact ⟨v2, h2, s1.trans s2⟩, fun x hx hp => k.plain x hx (h.plain x hx hp)⟩
theorem Mk.later {K : Nat → Prop} {w w' : World} (hb : Below w.heap.size w w') : Mk K w w' :=
  ⟨keeps_of hb fun _ h => h.2, fun a v _ hv => ⟨v, (hb.cell (p := a) (World.block_lt_of_cell? w a hv)).trans hv, Sk.refl v⟩, fun b _ ⟨c, e, h⟩ => ⟨c, e, (hb.block b (heap_lt h)).trans h⟩⟩
theorem Mk.set {K : Nat → Prop} {w : World} {b j : Nat} {v u : Value} (hb : K b) (hv : w.cell? ⟨b, j, none⟩ = some v) (hs : Sk v u) : Mk K w (w.setCell ⟨b, j, none⟩ u) := by
  refine ⟨keeps_set w b j u fun h => h.1 hb, fun a x ha hx => ?_, fun c hc ⟨cs, e, h⟩ => ?_⟩
  · obtain ⟨ab, ao, asp⟩ := a
    by_cases h1 : ab = b
    · subst h1
      cases asp with
      | some q =>
        have h9 := World.cell?_spot hx
        cases h9
      | none =>
        by_cases h2 : ao = j
        · subst h2
          have e := hx.symm.trans hv
          have e2 := Option.some.inj e
          rw [e2]
          refine ⟨u, ?_, hs⟩
          rw [set_cell w ab ao ao u v hv, if_pos rfl]
        · refine ⟨x, ?_, Sk.refl x⟩
          rw [set_cell w ab j ao u v hv, if_neg h2]
          exact hx
    · refine ⟨x, ?_, Sk.refl x⟩
      exact (World.cell?_of_block (a := ⟨ab, ao, asp⟩) (heap_set_other u h1)).trans hx
  · by_cases h1 : c = b
    · subst h1
      exact ⟨_, e, heap_set_same u h⟩
    · exact ⟨cs, e, (heap_set_other u h1).trans h⟩
def strQ (_ : ByteArray) (cs : List Value) : Prop := ∃ s, cs = [.string s]
structure Shps where
  ex : Tr → List Value → Prop
  de : Tr → List Value → Prop
  al : Tr → List Value → Prop
/-- The shape of cells that were a tree. -/
def shp (K : Nat → Prop) (w : World) : Nat → Shps
  | 0 => ⟨fun _ _ => False, fun _ _ => False, fun _ _ => False⟩
  | h + 1 =>
    ⟨fun e cs => ∃ k s n o1 c1 o2 c2 o3 c3, cs = [.int .i64 k, .string s, .int .i64 n, .slice o1 e.l.length c1, .slice o2 e.ds.length c2, .slice o3 e.al.length c3] ∧ (e.l.length ≤ maxLen ∧ e.ds.length ≤ maxLen ∧ e.al.length ≤ maxLen) ∧ RowOf K w (shp K w h).ex 6 o1 e.l ∧ RowOf K w (shp K w h).de 9 o2 e.ds ∧ RowOf K w (shp K w h).al 8 o3 e.al,
     fun d cs => ∃ e s o1 c1 ce o2 c2, d.l = [e] ∧ cs = [.string s, .slice o1 d.ss.length c1] ++ ce ++ [.slice o2 d.ds.length c2] ∧ (d.ss.length ≤ maxLen ∧ d.ds.length ≤ maxLen) ∧ RowOf K w strQ 1 o1 d.ss ∧ ce.length = 6 ∧ (shp K w h).ex e ce ∧ RowOf K w (shp K w h).de 9 o2 d.ds,
     fun a cs => ∃ e s o1 c1 ce, a.l = [e] ∧ cs = [.string s, .slice o1 a.ss.length c1] ++ ce ∧ a.ss.length ≤ maxLen ∧ RowOf K w strQ 1 o1 a.ss ∧ ce.length = 6 ∧ (shp K w h).ex e ce⟩
theorem str_q {x : ByteArray} {cs : List Value} (h : strR x cs) : strQ x cs := ⟨x, h.1⟩
theorem shp_of {K : Nat → Prop} {w : World} : ∀ h, (∀ e cs, (reads K w h).ex e cs → (shp K w h).ex e cs) ∧ (∀ d cs, (reads K w h).de d cs → (shp K w h).de d cs) ∧ (∀ a cs, (reads K w h).al a cs → (shp K w h).al a cs) := by
  intro h
  induction h with
  | zero => exact ⟨fun _ _ h => h, fun _ _ h => h, fun _ _ h => h⟩
  | succ h ih =>
    obtain ⟨ih1, ih2, ih3⟩ := ih
    refine ⟨fun e cs he => ?_, fun d cs hd => ?_, fun a cs ha => ?_⟩
    · obtain ⟨e0, o1, c1, o2, c2, o3, c3, e1, e2, e3, e4, e5, r1, r2, r3⟩ := he
      exact ⟨e.k, e.s, e.n, o1, c1, o2, c2, o3, c3, e1, ⟨e3.1, e4.1, e5.1⟩, r1.frame (Stays.refl _ _) (fun _ h => h) ih1, r2.frame (Stays.refl _ _) (fun _ h => h) ih2, r3.frame (Stays.refl _ _) (fun _ h => h) ih3⟩
    · obtain ⟨d0, d1, d2, e, o1, c1, ce, o2, c2, e0, e1, e2, e3, e4, r1, e5, r2, r3⟩ := hd
      exact ⟨e, d.s, o1, c1, ce, o2, c2, e0, e1, ⟨e3.1, e4.1⟩, r1.frame (Stays.refl _ _) (fun _ h => h) (fun _ _ h => str_q h), e5, ih1 _ _ r2, r3.frame (Stays.refl _ _) (fun _ h => h) ih2⟩
    · obtain ⟨a0, a1, a2, a3, e, o1, c1, ce, e0, e1, e2, e3, r1, e4, r2⟩ := ha
      exact ⟨e, a.s, o1, c1, ce, e0, e1, e3.1, r1.frame (Stays.refl _ _) (fun _ h => h) (fun _ _ h => str_q h), e4, ih1 _ _ r2⟩
def SkL (cs cs' : List Value) : Prop := cs'.length = cs.length ∧ ∀ (j : Nat) (v v' : Value), cs[j]? = some v → cs'[j]? = some v' → Sk v v'
theorem SkL.six {a b c d e f : Value} {cs' : List Value} (h : SkL [a, b, c, d, e, f] cs') : ∃ a' b' c' d' e' f', cs' = [a', b', c', d', e', f'] ∧ Sk a a' ∧ Sk b b' ∧ Sk c c' ∧ Sk d d' ∧ Sk e e' ∧ Sk f f' := by
  obtain ⟨a', b', c', d', e', f', rfl⟩ := Go.Proofs.Ytgeckgdmkjddpaa.six h.1
  exact ⟨a', b', c', d', e', f', rfl, h.2 0 _ _ rfl rfl, h.2 1 _ _ rfl rfl, h.2 2 _ _ rfl rfl, h.2 3 _ _ rfl rfl, h.2 4 _ _ rfl rfl, h.2 5 _ _ rfl rfl⟩
/-- A row's cells behind marks: of the same kinds. -/
theorem row_kin {α : Type} {K : Nat → Prop} {w w' : World} {R R' : α → List Value → Prop} {sz : Nat} {o : Option Addr} {xs : List α} (h : RowOf K w R sz o xs) (hm : Mk K w w') (hR : ∀ x cs cs', SkL cs cs' → R x cs → R' x cs') : RowOf K w' R' sz o xs := by
  intro hne
  obtain ⟨b, off, ho, hk, hlt, hc⟩ := h hne
  refine ⟨b, off, ho, hk, Nat.lt_of_lt_of_le hlt hm.keep.size, fun i x hx => ?_⟩
  obtain ⟨cs, h1, h2, h3⟩ := hc i x hx
  obtain ⟨cs', hl', hp⟩ := list_of2 (α := Value) (n := sz) (p := fun j v' => w'.cell? ⟨b, off + i * sz + j, none⟩ = some v' ∧ ∀ v, cs[j]? = some v → Sk v v') (fun j hj => by
    obtain ⟨v', h4, h5⟩ := hm.kin ⟨b, off + i * sz + j, none⟩ (cs[j]'(by omega)) hk (h2 j _ (List.getElem?_eq_getElem _))
    refine ⟨v', h4, fun v hv => ?_⟩
    rw [List.getElem?_eq_getElem (by omega)] at hv
    cases hv
    exact h5)
  exact ⟨cs', hl', fun j u hu => (hp j u hu).1, hR x cs cs' ⟨hl'.trans h1.symm, fun j v v' hv hv' => (hp j v' hv').2 v hv⟩ h3⟩
theorem strQ_kin (x : ByteArray) (cs cs' : List Value) (h : SkL cs cs') (hx : strQ x cs) : strQ x cs' := by
  obtain ⟨s, rfl⟩ := hx
  match cs', h.1 with
  | [v], _ =>
    obtain ⟨t, rfl⟩ := (h.2 0 _ _ rfl rfl).str
    exact ⟨t, rfl⟩
theorem shp_kin {K : Nat → Prop} {w w' : World} (hm : Mk K w w') : ∀ h, (∀ e cs cs', SkL cs cs' → (shp K w h).ex e cs → (shp K w' h).ex e cs') ∧ (∀ d cs cs', SkL cs cs' → (shp K w h).de d cs → (shp K w' h).de d cs') ∧ (∀ a cs cs', SkL cs cs' → (shp K w h).al a cs → (shp K w' h).al a cs') := by
  intro h
  induction h with
  | zero => exact ⟨fun _ _ _ _ h => h, fun _ _ _ _ h => h, fun _ _ _ _ h => h⟩
  | succ h ih =>
    obtain ⟨ih1, ih2, ih3⟩ := ih
    refine ⟨fun e cs cs' hs he => ?_, fun d cs cs' hs hd => ?_, fun a cs cs' hs ha => ?_⟩
    · obtain ⟨k, s, n, o1, c1, o2, c2, o3, c3, rfl, ml, r1, r2, r3⟩ := he
      obtain ⟨x0, x1, x2, x3, x4, x5, rfl, s0, s1, s2, s3, s4, s5⟩ := hs.six
      obtain ⟨k', rfl⟩ := s0.int
      obtain ⟨s', rfl⟩ := s1.str
      obtain ⟨n', rfl⟩ := s2.int
      rw [s3.slice, s4.slice, s5.slice]
      exact ⟨k', s', n', o1, c1, o2, c2, o3, c3, rfl, ml, row_kin r1 hm ih1, row_kin r2 hm ih2, row_kin r3 hm ih3⟩
    · obtain ⟨e, s, o1, c1, ce, o2, c2, e0, rfl, ml, r1, e5, r2, r3⟩ := hd
      obtain ⟨a0, a1, a2, a3, a4, a5, rfl⟩ := Go.Proofs.Ytgeckgdmkjddpaa.six e5
      obtain ⟨x, y, b0, b1, b2, b3, b4, b5, z, rfl⟩ := nine hs.1
      obtain ⟨s', rfl⟩ := (hs.2 0 _ _ rfl rfl : Sk (.string s) x).str
      rw [(hs.2 1 _ _ rfl rfl : Sk (.slice o1 d.ss.length c1) y).slice, (hs.2 8 _ _ rfl rfl : Sk (.slice o2 d.ds.length c2) z).slice]
      refine ⟨e, s', o1, c1, [b0, b1, b2, b3, b4, b5], o2, c2, e0, rfl, ml, row_kin r1 hm strQ_kin, rfl, ih1 e [a0, a1, a2, a3, a4, a5] [b0, b1, b2, b3, b4, b5] ⟨rfl, fun j v v' hv hv' => ?_⟩ r2, row_kin r3 hm ih2⟩
      match j with
      | 0 => exact hs.2 2 _ _ hv hv'
      | 1 => exact hs.2 3 _ _ hv hv'
      | 2 => exact hs.2 4 _ _ hv hv'
      | 3 => exact hs.2 5 _ _ hv hv'
      | 4 => exact hs.2 6 _ _ hv hv'
      | 5 => exact hs.2 7 _ _ hv hv'
      | j + 6 => simp at hv
    · obtain ⟨e, s, o1, c1, ce, e0, rfl, ml, r1, e5, r2⟩ := ha
      obtain ⟨a0, a1, a2, a3, a4, a5, rfl⟩ := Go.Proofs.Ytgeckgdmkjddpaa.six e5
      obtain ⟨x, y, b0, b1, b2, b3, b4, b5, rfl⟩ := eight hs.1
      obtain ⟨s', rfl⟩ := (hs.2 0 _ _ rfl rfl : Sk (.string s) x).str
      rw [(hs.2 1 _ _ rfl rfl : Sk (.slice o1 a.ss.length c1) y).slice]
      refine ⟨e, s', o1, c1, [b0, b1, b2, b3, b4, b5], e0, rfl, ml, row_kin r1 hm strQ_kin, rfl, ih1 e [a0, a1, a2, a3, a4, a5] [b0, b1, b2, b3, b4, b5] ⟨rfl, fun j v v' hv hv' => ?_⟩ r2⟩
      match j with
      | 0 => exact hs.2 2 _ _ hv hv'
      | 1 => exact hs.2 3 _ _ hv hv'
      | 2 => exact hs.2 4 _ _ hv hv'
      | 3 => exact hs.2 5 _ _ hv hv'
      | 4 => exact hs.2 6 _ _ hv hv'
      | 5 => exact hs.2 7 _ _ hv hv'
      | j + 6 => simp at hv
theorem row_shp {K : Nat → Prop} {w w' : World} (hm : Mk K w w') (h : Nat) {o : Option Addr} {xs : List Tr} : (RowOf K w (shp K w h).ex 6 o xs → RowOf K w' (shp K w' h).ex 6 o xs) ∧ (RowOf K w (shp K w h).de 9 o xs → RowOf K w' (shp K w' h).de 9 o xs) ∧ (RowOf K w (shp K w h).al 8 o xs → RowOf K w' (shp K w' h).al 8 o xs) :=
  ⟨fun r => row_kin r hm (shp_kin hm h).1, fun r => row_kin r hm (shp_kin hm h).2.1, fun r => row_kin r hm (shp_kin hm h).2.2⟩

set_option maxHeartbeats 1000000 in
set_option maxRecDepth 100000 in
theorem markStrS_any {K : Nat → Prop} (xs : List ByteArray) (o : Option Addr) (c kk : Nat) (w : World) (hx : RowOf K w strQ 1 o xs) (hp : ∀ b, K b → PlainAt w ⟨b, 0, none⟩) (hl : kk + xs.length ≤ 8900000) :
    Calls Try.prog 44 #[.slice o xs.length c, .int .i64 ((kk : Int) + 1)] w fun e w' => e = .returned (.int .i64 (((kk + xs.length : Nat) : Int) + 1)) ∧ Mk K w w' ∧ (∀ b off, o = some ⟨b, off, none⟩ → ∀ j, j < xs.length → w'.cell? ⟨b, off + j, none⟩ = some (.string (markS (kk + j)))) := by
  have HX := hide hx
  have HP := hide hp
  have ml : xs.length ≤ 9223372036854775807 := by omega
  clear hx hp
  go_enter Try.func44, Try.ntmps44
  go_wp2
  go_loopw [1, 5] (fun t1 t5 wr => ∃ i : Nat, i ≤ xs.length ∧ t5 = .int .i64 i ∧ t1 = .int .i64 (((kk + i : Nat) : Int) + 1) ∧ Mk K w wr ∧ (∀ b off, o = some ⟨b, off, none⟩ → ∀ j, j < i → wr.cell? ⟨b, off + j, none⟩ = some (.string (markS (kk + j))))) (fun _ t5 _ => xs.length - (intOf t5).toNat)
  case atStart => exact ⟨0, Nat.zero_le _, rfl, by simp, Mk.refl _ _, fun b off _ j hj => absurd hj (by omega)⟩
  case round =>
    obtain ⟨i, hi, rfl, rfl, hm, hd⟩ := hrel
    have HM := hide hm
    have HD := hide hd
    by_cases hlt : i < xs.length
    · have hne : xs ≠ [] := by intro e; rw [e] at hlt; simp at hlt
      obtain ⟨b, off, eo, hkb, hbl, hcs⟩ := row_kin HX.out hm strQ_kin hne
      subst eo
      obtain ⟨_, -, hkey, s, rfl⟩ := hcs i _ (List.getElem?_eq_getElem hlt)
      have q0 := hkey 0 _ rfl
      rw [Nat.mul_one, Nat.add_zero] at q0
      have hpl := hm.plain b hkb (HP.out b hkb)
      have HQ := hide q0
      have HPL := hide hpl
      have HKB := hide hkb
      generalize hkk : kk + i = ki at *
      have HKK := hide hkk
      have hkib : ki ≤ 8900000 := by omega
      clear hm hd hcs hkey hne hpl hkb q0 hkk
      go_wp2_with fail
      refine (markText_s ki (by have := HKK.out; omega) wr).mono ?_
      rintro e w2 ⟨rfl, hb2⟩
      have hc2 := (hb2.cell (p := ⟨b, off + i, none⟩) hbl).trans HQ.out
      obtain ⟨cc, ct, hpc⟩ := HPL.out
      have hf2 := frozen_of ((hb2.block b hbl).trans hpc) (off + i)
      have hmk : Mk K wr (w2.setCell ⟨b, off + i, none⟩ (.string (markS ki))) := (Mk.later hb2).trans (Mk.set HKB.out hc2 (.inr (.inr ⟨_, _, rfl, rfl⟩)))
      have HMK := hide (HM.out.trans hmk)
      have HDD : Hid (∀ j, j < i + 1 → (w2.setCell ⟨b, off + i, none⟩ (.string (markS ki))).cell? ⟨b, off + j, none⟩ = some (.string (markS (kk + j)))) := fun j hj => by
        rw [set_cell w2 b (off + i) (off + j) _ _ hc2]
        by_cases e : j = i
        · subst e
          rw [if_pos rfl, HKK.out]
        · rw [if_neg (by omega)]
          exact (hb2.cell (p := ⟨b, off + j, none⟩) hbl).trans (HD.out b off rfl j (by omega))
      clear hb2 hpc hmk
      go_wp2
      go_roundw
      case rel =>
        refine ⟨i + 1, by omega, by go_num, ?_, HMK.out, fun b' off' e j hj => ?_⟩
        · have := HKK.out
          have e9 : kk + (i + 1) = ki + 1 := by omega
          rw [e9]
          go_num
        · cases e
          exact HDD.out j hj
      case measure => simp [intOf]; omega
    · have hie : i = xs.length := by omega
      subst hie
      clear hm hd
      go_wp2
      go_ret
      exact ⟨rfl, HM.out, HD.out⟩
end Go.Proofs.Ytgeckgdmkjddpaa.Nm
