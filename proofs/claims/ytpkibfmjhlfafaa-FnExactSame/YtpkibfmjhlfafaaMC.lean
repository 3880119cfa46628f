/- Pairs of places in memory: a row of them, and a map in which they stand. -/
import Derived.Test.YtpkibfmjhlfafaaMA
import Derived.Test.YtpkibfmjhlfafaaLA
import Derived.Maps.AppendAt
import Derived.Deep.RegionLaw
namespace Go.Proofs.Ytpkibfmjhlfafaa
open Go.RowKit

def ptrs (k : Addr × Addr) : List Value := [.pointer (some k.1), .pointer (some k.2)]
def rowP (ls : List (Addr × Addr)) : List Value := ls.flatMap ptrs
theorem rowP_snoc (ls : List (Addr × Addr)) (k : Addr × Addr) : rowP (ls ++ [k]) = rowP ls ++ ptrs k := by unfold rowP; simp

structure PairsMem (T : TypeId) (w : World) (K : Nat → Prop) (g : Nat) (vl : Value) (mo : Option Nat) (ls ks : List (Addr × Addr)) : Prop where
  row : w.ownsRow 0 T 2 vl ls.length (rowP ls)
  map : (mo = none ∧ ks = []) ∨ ∃ m es clock, mo = some m ∧ w.heap[m]? = some (.map es clock) ∧ KeysAre es.toList ks
  rg : vl.ownBlock ≠ some g
  mg : mo ≠ some g
  rm : vl.ownBlock = none ∨ vl.ownBlock ≠ mo
  kg : ¬ K g
  kr : ∀ k, vl.ownBlock = some k → ¬ K k
  km : ∀ k, mo = some k → ¬ K k
  kw : ∀ k, K k → k < w.heap.size
  gw : g < w.heap.size
  keys : ∀ l ∈ ks, (K l.1.block ∧ PlainAt w l.1) ∧ K l.2.block ∧ PlainAt w l.2

theorem PlainAt.block {w w' : World} {x : Addr} (h : PlainAt w x) (hb : w'.heap[x.block]? = w.heap[x.block]?) : PlainAt w' x := by
  obtain ⟨c, e, hc⟩ := h
  exact ⟨c, e, hb.trans hc⟩
theorem PlainAt.later {w w' : World} {x : Addr} (h : PlainAt w x) (hb : Below w.heap.size w w') : PlainAt w' x := by
  obtain ⟨c, e, hc⟩ := h
  exact ⟨c, e, (hb.block _ (heap_lt hc)).trans hc⟩
theorem PairsMem.mlt {T : TypeId} {w : World} {K : Nat → Prop} {g : Nat} {vl : Value} {mo : Option Nat} {ls ks : List (Addr × Addr)} (h : PairsMem T w K g vl mo ls ks) : ∀ m, mo = some m → m < w.heap.size := by
  intro m e
  rcases h.map with ⟨e2, -⟩ | ⟨m2, es, c, e2, hm, -⟩
  · rw [e2] at e; cases e
  · rw [e2] at e
    cases e
    exact heap_lt hm
theorem PairsMem.same {T : TypeId} {w w' : World} {K : Nat → Prop} {g : Nat} {vl : Value} {mo : Option Nat} {ls ks : List (Addr × Addr)} (h : PairsMem T w K g vl mo ls ks) (hs : w.heap.size ≤ w'.heap.size)
    (hb : ∀ k, k < w.heap.size → k ≠ g → w'.heap[k]? = w.heap[k]?) : PairsMem T w' K g vl mo ls ks where
  row := owns_block h.row fun k hk => hb k (owns_lt h.row k hk).1 fun e => h.rg (e ▸ hk)
  map := by
    rcases h.map with e | ⟨m2, es, c, e2, hm, hk⟩
    · exact Or.inl e
    · exact Or.inr ⟨m2, es, c, e2, (hb m2 (heap_lt hm) fun e => h.mg (e ▸ e2)).trans hm, hk⟩
  rg := h.rg
  mg := h.mg
  rm := h.rm
  kg := h.kg
  kr := h.kr
  km := h.km
  kw := fun k hk => Nat.lt_of_lt_of_le (h.kw k hk) hs
  gw := Nat.lt_of_lt_of_le h.gw hs
  keys := fun l hl => by
    obtain ⟨⟨a, b⟩, c, d⟩ := h.keys l hl
    exact ⟨⟨a, b.block (hb _ (h.kw _ a) fun e => h.kg (e ▸ a))⟩, c, d.block (hb _ (h.kw _ c) fun e => h.kg (e ▸ c))⟩
theorem PairsMem.later {T : TypeId} {w w' : World} {K : Nat → Prop} {g : Nat} {vl : Value} {mo : Option Nat} {ls ks : List (Addr × Addr)} (h : PairsMem T w K g vl mo ls ks) (hb : Below w.heap.size w w') : PairsMem T w' K g vl mo ls ks :=
  h.same hb.size fun k hk _ => hb.block k hk
theorem PairsMem.set {T : TypeId} {w : World} {K : Nat → Prop} {g : Nat} {vl : Value} {mo : Option Nat} {ls ks : List (Addr × Addr)} (h : PairsMem T w K g vl mo ls ks) (j : Nat) (u : Value) : PairsMem T (w.setCell ⟨g, j, none⟩ u) K g vl mo ls ks :=
  h.same (by simp) fun k _ hk => heap_set_other u hk
/-- More is kept, or less, as long as the keys' blocks are. -/
theorem PairsMem.more {T : TypeId} {w : World} {K K' : Nat → Prop} {g : Nat} {vl : Value} {mo : Option Nat} {ls ks : List (Addr × Addr)} (h : PairsMem T w K g vl mo ls ks) (hw : ∀ k, K' k → k < w.heap.size)
    (hg : ¬ K' g) (hr : ∀ k, vl.ownBlock = some k → ¬ K' k) (hm : ∀ k, mo = some k → ¬ K' k) (hk : ∀ k, K k → K' k) : PairsMem T w K' g vl mo ls ks :=
  ⟨h.row, h.map, h.rg, h.mg, h.rm, hg, hr, hm, hw, h.gw, fun l hl => by
    obtain ⟨⟨a, b⟩, c, d⟩ := h.keys l hl
    exact ⟨⟨hk _ a, b⟩, hk _ c, d⟩⟩
theorem PairsMem.less {T : TypeId} {w : World} {K K' : Nat → Prop} {g : Nat} {vl : Value} {mo : Option Nat} {ls ks : List (Addr × Addr)} (h : PairsMem T w K' g vl mo ls ks) (hk : ∀ k, K k → K' k) (hks : ∀ l ∈ ks, K l.1.block ∧ K l.2.block) : PairsMem T w K g vl mo ls ks :=
  ⟨h.row, h.map, h.rg, h.mg, h.rm, fun e => h.kg (hk _ e), fun k e e2 => h.kr k e (hk _ e2), fun k e e2 => h.km k e (hk _ e2), fun k e => h.kw k (hk _ e), h.gw, fun l hl => ⟨⟨(hks l hl).1, (h.keys l hl).1.2⟩, (hks l hl).2, (h.keys l hl).2.2⟩⟩
theorem PairsMem.fresh {T : TypeId} {w : World} {K : Nat → Prop} {g : Nat} {vl : Value} {ls : List (Addr × Addr)} (h : PairsMem T w K g vl none ls []) :
    PairsMem T (w.alloc (.map #[] 0)) K g vl (some w.heap.size) ls [] := by
  have h2 := h.later (w' := w.alloc (.map #[] 0)) ((Below.refl _ w).alloc (Nat.le_refl _) _)
  have hgw := h.gw
  refine ⟨h2.row, Or.inr ⟨_, #[], 0, rfl, heap_alloc_new w _, ⟨rfl, fun e he => by cases he⟩⟩, h2.rg, ?_, ?_, h2.kg, h2.kr, ?_, h2.kw, h2.gw, fun l hl => by cases hl⟩
  · intro e
    have := Option.some.inj e
    omega
  · cases hv : vl.ownBlock with
    | none => exact Or.inl rfl
    | some k =>
      right
      intro e
      have := (owns_lt h.row k hv).1
      have := Option.some.inj e
      omega
  · intro k e hk
    have := h.kw k hk
    have := Option.some.inj e
    omega
theorem PairsMem.put {T : TypeId} {w w2 : World} {K : Nat → Prop} {g : Nat} {vl vl' : Value} {mo : Option Nat} {ls ks : List (Addr × Addr)} {k : Addr × Addr} (h : PairsMem T w K g vl mo ls ks)
    (hown : w2.ownsRow 0 T 2 vl' (ls.length + 1) (rowP ls ++ ptrs k)) (hg : w.grownBy w2 vl.ownBlock) (hb : vl'.ownBlock = vl.ownBlock ∨ vl'.ownBlock = some w.heap.size) :
    PairsMem T w2 K g vl' mo (ls ++ [k]) ks ∧ Keeps K w w2 ∧ w2.heap[g]? = w.heap[g]? := by
  have hgw := h.gw
  have hK := keeps_grown hg h.kw h.kr
  refine ⟨⟨?_, ?_, ?_, h.mg, ?_, h.kg, ?_, h.km, fun k hk => Nat.lt_of_lt_of_le (h.kw k hk) hg.size, Nat.lt_of_lt_of_le h.gw hg.size, fun l hl => ?_⟩, hK, hg.block g h.gw fun e => h.rg e.symm⟩
  · rw [List.length_append, rowP_snoc]
    exact hown
  · rcases h.map with e | ⟨m2, es, c, e2, hm, hk⟩
    · exact Or.inl e
    · refine Or.inr ⟨m2, es, c, e2, (hg.block m2 (heap_lt hm) fun e => ?_).trans hm, hk⟩
      rcases h.rm with e3 | e3
      · rw [e3] at e; cases e
      · exact e3 (e2 ▸ e.symm)
  · rcases hb with e | e
    · rw [e]; exact h.rg
    · rw [e]; intro e2; have := Option.some.inj e2; omega
  · rcases hb with e | e
    · rw [e]; exact h.rm
    · right
      rw [e]
      intro e2
      have := h.mlt _ e2.symm
      omega
  · intro k hk hK
    rcases hb with e | e
    · exact h.kr k (e ▸ hk) hK
    · rw [e] at hk
      have := h.kw k hK
      have := Option.some.inj hk
      omega
  · obtain ⟨⟨a, b⟩, c, d⟩ := h.keys l hl
    exact ⟨⟨a, b.block (hK.block _ a)⟩, c, d.block (hK.block _ c)⟩
def pairObj (T : TypeId) (k : Addr × Addr) : Obj := .cells #[.pointer (some k.1), .pointer (some k.2)] T (0, 0)
theorem cells2_at (W : World) (a b : Value) (t : TypeId) : ∀ (j : Nat) (u : Value), [a, b][j]? = some u → (W.alloc (.cells #[a, b] t)).cell? ((⟨W.heap.size, 0, none⟩ : Addr).add j) = some u := by
  intro j u hj
  match j, hj with
  | 0, hj => simp at hj; subst hj; simp [Addr.add]
  | 1, hj => simp at hj; subst hj; simp [Addr.add]
  | j + 2, hj => simp at hj
theorem ptrs_one (k : Addr × Addr) : ∀ u ∈ ptrs k, u.oneCell' = true := by
  intro u hu
  unfold ptrs at hu
  simp only [List.mem_cons, List.not_mem_nil, or_false] at hu
  rcases hu with rfl | rfl <;> rfl
/-- A pair put behind the row. -/
theorem PairsMem.append {P : Program} {T S : TypeId} {i : TypeInfo} {z : Value} (hS : P.underlying S = some (.slice T)) (hi : P.info? T = some i) (hz : i.zero = some z) (hsz : i.size = 2) (hby : i.bytes = 16) (hzc : z.cells.size = 2)
    {w : World} {K : Nat → Prop} {g : Nat} {vl : Value} {mo : Option Nat} {ls ks : List (Addr × Addr)} (h : PairsMem T w K g vl mo ls ks) (k : Addr × Addr) (hn : ls.length ≤ 10000000) :
    ∃ o' n' cap' w', (Builtin.append_ #[S, S] S #[vl, .slice (some ⟨w.heap.size, 0, none⟩) 1 1]).run P (w.alloc (pairObj T k)).drew = .ok (.slice o' n' cap') w' ∧ PairsMem T w' K g (.slice o' n' cap') mo (ls ++ [k]) ks ∧ Keeps K w w' ∧ w'.heap[g]? = w.heap[g]? := by
  have hbl : Below w.heap.size w (w.alloc (pairObj T k)).drew := ((Below.refl _ w).alloc (Nat.le_refl _) _).drew
  have h2 := h.later hbl
  obtain ⟨v', w', hr, hown, hgr, -, hb⟩ := run_append_own_at (P := P) (w.alloc (pairObj T k)).drew 0 S S T i z 2 16 hS hi hz hsz hby hzc (by decide) vl ls.length (rowP ls) h2.row ⟨w.heap.size, 0, none⟩ 1 1 (ptrs k) rfl
    (cells2_at w _ _ _) (ptrs_one k) (by unfold maxLen; omega) (by omega) (Nat.zero_le _)
  obtain ⟨o', cap', rfl⟩ := owns_form hown
  obtain ⟨hm2, hk2, hg2⟩ := h2.put hown hgr hb
  refine ⟨o', _, cap', w', hr, hm2, (keeps_of hbl h.kw).trans hk2, ?_⟩
  rw [hg2]
  exact hbl.block g h.gw
/-- A pair put into the map. -/
theorem PairsMem.update {P : Program} {T M u : TypeId} (hM : P.underlying M = some (.map T u)) (ht : PairTy P T)
    {w : World} {K : Nat → Prop} {g : Nat} {vl : Value} {m : Nat} {ls ks : List (Addr × Addr)} (h : PairsMem T w K g vl (some m) ls ks) (k : Addr × Addr) (h1 : PlainAt w k.1) (h2 : PlainAt w k.2) (k1 : K k.1.block) (k2 : K k.2.block) (hno : hasK ks k = false) :
    ∃ w', (Instr.mapUpdate M (.map (some m)) (keyV k) (.agg #[])).run P w = .ok () w' ∧ PairsMem T w' K g vl (some m) ls (ks ++ [k]) ∧ Keeps K w w' ∧ w'.heap[g]? = w.heap[g]? ∧ w'.heap.size = w.heap.size := by
  rcases h.map with ⟨e, -⟩ | ⟨m2, es, c, e2, hm, hk⟩
  · cases e
  · cases e2
    have hmlt := heap_lt hm
    have hmg : m ≠ g := fun e => h.mg (e ▸ rfl)
    have hrun := put_new hM ht w k m es c ks hm hk h1 h2 (fun l hl => ⟨(h.keys l hl).1.2, (h.keys l hl).2.2⟩) hno
    obtain ⟨w', hw', hnew, hoth, hs, ho⟩ : ∃ w' : World, (setObj m (.map (es.push ⟨keyV k, .agg #[], c⟩) (c + 1))).run P w = .ok () w' ∧ w'.heap[m]? = some (.map (es.push ⟨keyV k, .agg #[], c⟩) (c + 1)) ∧ (∀ j, j ≠ m → w'.heap[j]? = w.heap[j]?) ∧ w'.heap.size = w.heap.size ∧ w'.os = w.os ∧ w'.tape = w.tape ∧ w'.output = w.output := by
      refine ⟨{ w with heap := w.heap.setIfInBounds m (.map (es.push ⟨keyV k, .agg #[], c⟩) (c + 1)) }, by simp [setObj, Sem.run, hm], ?_, ?_, ?_, rfl, rfl, rfl⟩
      · simp [hmlt]
      · intro j hj
        simp [Ne.symm hj]
      · simp
    have hK : Keeps K w w' := ⟨ho.1, ho.2.1, ho.2.2, by omega, fun j hj => hoth j fun e => h.km m rfl (e ▸ hj)⟩
    refine ⟨w', hrun.trans hw', ⟨owns_block h.row fun j hj => hoth j fun e => ?_, Or.inr ⟨m, _, _, rfl, hnew, keys_push hk k c⟩, h.rg, h.mg, h.rm, h.kg, h.kr, h.km, fun j hj => by have := h.kw j hj; omega, by have := h.gw; omega, fun l hl => ?_⟩, hK, hoth g (Ne.symm hmg), hs⟩
    · subst e
      rcases h.rm with e3 | e3
      · rw [e3] at hj; cases hj
      · exact e3 hj
    · rw [List.mem_append] at hl
      rcases hl with hl | hl
      · obtain ⟨⟨a, b⟩, c, d⟩ := h.keys l hl
        exact ⟨⟨a, b.block (hK.block _ a)⟩, c, d.block (hK.block _ c)⟩
      · simp at hl
        subst hl
        exact ⟨⟨k1, h1.block (hK.block _ k1)⟩, k2, h2.block (hK.block _ k2)⟩
/-- What is there when a new pair was put: nothing else of the block is another. -/
def PutDone (T : TypeId) (w w' : World) (K : Nat → Prop) (g o : Nat) (c : Array Value) (e : TypeId) (k : Addr × Addr) (ls ks : List (Addr × Addr)) : Prop :=
  ∃ c' vl' m', w'.heap[g]? = some (.cells c' e (0, 0)) ∧ c'[o]? = some vl' ∧ c'[o + 1]? = some (.map (some m')) ∧ (∀ j, j ≠ o → j ≠ o + 1 → c'[j]? = c[j]?) ∧ PairsMem T w' K g vl' (some m') (ls ++ [k]) (ks ++ [k]) ∧ Keeps K w w'
/-- The pairs of one field, of whatever is in the block besides. -/
def PairsNow (T : TypeId) (w w' : World) (K : Nat → Prop) (g o : Nat) (c : Array Value) (e : TypeId) (ls ks : List (Addr × Addr)) : Prop :=
  ∃ c' vl' mo', w'.heap[g]? = some (.cells c' e (0, 0)) ∧ c'[o]? = some vl' ∧ c'[o + 1]? = some (.map mo') ∧ (∀ j, j ≠ o → j ≠ o + 1 → c'[j]? = c[j]?) ∧ PairsMem T w' K g vl' mo' ls ks ∧ Keeps K w w'
def newOf (ks : List (Addr × Addr)) (k : Addr × Addr) : List (Addr × Addr) := if (k.1 == k.2 || hasK ks k) = true then [] else [k]
theorem newOf_skip {ks : List (Addr × Addr)} {k : Addr × Addr} (h : (k.1 == k.2 || hasK ks k) = true) : newOf ks k = [] := if_pos h
theorem newOf_put {ks : List (Addr × Addr)} {k : Addr × Addr} (h : (k.1 == k.2 || hasK ks k) = false) : newOf ks k = [k] := if_neg (by rw [h]; decide)
theorem PutDone.now {T : TypeId} {w w' : World} {K : Nat → Prop} {g o : Nat} {c : Array Value} {e : TypeId} {k : Addr × Addr} {ls ks : List (Addr × Addr)} (h : PutDone T w w' K g o c e k ls ks) : PairsNow T w w' K g o c e (ls ++ [k]) (ks ++ [k]) := by
  obtain ⟨c', vl', m', h1, h2, h3, h4, h5, h6⟩ := h
  exact ⟨c', vl', _, h1, h2, h3, h4, h5, h6⟩
theorem step_append_run3 {P : Program} {ops : Array Oper} {o : Oper} {a : Act} {w : World} {K : Act → World → Prop} {Q : Exit → Act → World → Prop} {E : Prop}
    (hg : o.guard = none) (s x : Operand) (t : TypeId) (hop : o.op = Op.call { callee := Callee.builtin Builtin.append, args := #[s, x], argTypes := #[t, t] })
    (v1 v2 v' : Value) (w' : World) (hs : a.eval s = v1) (hx : a.eval x = v2) (hr : (Builtin.append_ #[t, t] o.type #[v1, v2]).run P w = .ok v' w')
    (hK : K (a.put o.dst v') w') : if Region.wanted o (yielded ops a.tmps) = true then Oper.wp P o a w K Q else E := by
  have hw : Region.wanted o (yielded ops a.tmps) = true := by simp [Region.wanted, hg]
  rw [if_pos hw]
  unfold Oper.wp
  simp [execOp, hop, resolve, invoke, builtin, hs, hx, hr, Result.andThen]
  exact hK
theorem zero_unit (w : World) : (zeroValue 48).run Try.prog w = .ok (.agg #[]) w := by kernel_rfl
end Go.Proofs.Ytpkibfmjhlfafaa
