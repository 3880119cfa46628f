/- Made of VF, VG, VH, VI, VE, VIa. -/
import Derived.Test.YtlaeenfeajkcfalGreatBE
import Derived.Test.YtlaeenfeajkcfalGreatSC
import Derived.Deep.RegionLaw
namespace Go.Proofs.YtlaeenfeajkcfalGreat.Fr
open Go.ChangeShapes Go.WideShapes Go.ChangeAt Go.RowKit Go.Proofs.YtlaeenfeajkcfalGreat.Nm
set_option linter.unusedVariables false

theorem ptr_of {t te : TypeId} {n : Nat} (hu : Tryz.prog.underlying t = some (.pointer te)) (hi : (Tryz.prog.info? te).map (fun i => i.size) = some n) (hn : n ≠ 0) : PtrTy Tryz.prog t := by
  cases hj : Tryz.prog.info? te with
  | none => rw [hj] at hi; cases hi
  | some j =>
    rw [hj] at hi
    simp at hi
    exact ⟨te, j, hu, hj, by omega⟩
theorem ptr_exp : PtrTy Tryz.prog 96 := ptr_of Tryz.underlying96 (n := 6) (by kernel_rfl) (by omega)
theorem ptr_dec : PtrTy Tryz.prog 97 := ptr_of Tryz.underlying97 (n := 9) (by kernel_rfl) (by omega)
theorem zero_int (w : World) : (zeroValue 3).run Tryz.prog w = .ok (.int .i64 0) w := by
  have hi : (Tryz.prog.info? 3).map (fun i => (i.zero, i.size, i.bytes)) = some (some (.int .i64 0), 1, 8) := by kernel_rfl
  obtain ⟨i0, h1, h2, -, -⟩ := info_parts hi
  simp [zeroValue, typeInfo, h1, h2]
theorem PMap.look2 {P : Program} {T t u : TypeId} (hT : P.underlying T = some (.map t u)) (ht : PtrTy P t) (hz : ∀ w, (zeroValue u).run P w = .ok (.int .i64 0) w) {w : World} {m : Nat} {l : List (Addr × Nat)} (h : PMap w m l) {a : Addr} (ha : PlainAt w a) (hp : ∀ b ∈ keysOf l, PlainAt w b) :
    (Instr.lookup T (.map (some m)) (.pointer (some a)) true).run P w = .ok (.tuple #[.int .i64 (getA l a : Int), .bool (findA l a 0).isSome]) w := by
  obtain ⟨es, clock, hm, hk⟩ := h
  have hg : (getObj m).run P w = .ok (.map es clock) w := by simp [getObj, Sem.run, hm]
  have hf := findKey_run ht w ha es.toList l hk.ents hp
  have hc := fun b => check_ptr ht b w a
  unfold ptrV at hf hc
  unfold getA
  cases hx : findA l a 0 with
  | none =>
    rw [hx] at hf
    simp [Instr.lookup, run_underlying hT, hg, hc, hf, hz]
  | some x =>
    rw [hx] at hf
    simp [Instr.lookup, run_underlying hT, hg, hc, hf]

/-- A place's cells: what it is of, and its ways. -/
def keyC (k : Bool × Addr) (v : Value) : List Value := if k.1 then [.pointer (some k.2), .pointer none, v, .int .i64 0] else [.pointer none, .pointer (some k.2), v, .int .i64 0]
def rowN (ks : List (Bool × Addr)) (ws : List Value) : List Value := (List.zipWith keyC ks ws).flatten
theorem keyC_len (k : Bool × Addr) (v : Value) : (keyC k v).length = 4 := by unfold keyC; split <;> rfl
theorem rowN_get : ∀ (ks : List (Bool × Addr)) (ws : List Value) (i : Nat) (k : Bool × Addr) (v : Value), ks[i]? = some k → ws[i]? = some v → ∀ j, j < 4 → (rowN ks ws)[i * 4 + j]? = (keyC k v)[j]? := by
  intro ks
  induction ks with
  | nil => intro ws i k v h; simp at h
  | cons k0 ks ih =>
    intro ws i k v hk hv j hj
    cases ws with
    | nil => simp at hv
    | cons v0 ws =>
      have e : rowN (k0 :: ks) (v0 :: ws) = keyC k0 v0 ++ rowN ks ws := rfl
      rw [e]
      cases i with
      | zero =>
        have h1 : k0 = k := by simpa using hk
        have h2 : v0 = v := by simpa using hv
        subst h1 h2
        rw [Nat.zero_mul, Nat.zero_add, List.getElem?_append_left (by rw [keyC_len]; exact hj)]
      | succ i =>
        rw [List.getElem?_append_right (by rw [keyC_len]; omega), keyC_len, show (i + 1) * 4 + j - 4 = i * 4 + j by omega]
        exact ih ws i k v (by simpa using hk) (by simpa using hv) j hj
theorem rowN_snoc : ∀ (ks : List (Bool × Addr)) (ws : List Value) (k : Bool × Addr) (v : Value), ws.length = ks.length → rowN (ks ++ [k]) (ws ++ [v]) = rowN ks ws ++ keyC k v := by
  intro ks
  induction ks with
  | nil =>
    intro ws k v h
    have : ws = [] := List.eq_nil_of_length_eq_zero h
    subst this
    simp [rowN]
  | cons k0 ks ih =>
    intro ws k v h
    cases ws with
    | nil => simp at h
    | cons v0 ws =>
      have e := ih ws k v (by simpa using h)
      show keyC k0 v0 ++ rowN (ks ++ [k]) (ws ++ [v]) = (keyC k0 v0 ++ rowN ks ws) ++ keyC k v
      rw [e, List.append_assoc]
theorem rowN_set : ∀ (ks : List (Bool × Addr)) (ws : List Value) (i : Nat) (v : Value), ws.length = ks.length → i < ks.length → rowN ks (ws.set i v) = (rowN ks ws).set (i * 4 + 2) v := by
  intro ks
  induction ks with
  | nil => intro ws i v _ h; simp at h
  | cons k0 ks ih =>
    intro ws i v h hi
    cases ws with
    | nil => simp at h
    | cons v0 ws =>
      cases i with
      | zero =>
        show keyC k0 v ++ rowN ks ws = (keyC k0 v0 ++ rowN ks ws).set (0 * 4 + 2) v
        rw [List.set_append_left _ _ (by rw [keyC_len]; omega)]
        congr 1
        unfold keyC
        split <;> rfl
      | succ i =>
        show keyC k0 v0 ++ rowN ks (ws.set i v) = (keyC k0 v0 ++ rowN ks ws).set ((i + 1) * 4 + 2) v
        rw [ih ws i v (by simpa using h) (by simpa using hi), List.set_append_right _ _ (by rw [keyC_len]; omega), keyC_len, show (i + 1) * 4 + 2 - 4 = i * 4 + 2 by omega]

/-- A way that was led: to which place, from which one, what it binds. -/
abbrev Log := List (Nat × Nat × List ByteArray)
/-- The ways to a place. -/
def waysOf (G : Log) (i : Nat) : List (Nat × List ByteArray) := (G.filter fun g => g.1 == i).map (·.2)
theorem waysOf_app (G D : Log) (i : Nat) : waysOf (G ++ D) i = waysOf G i ++ waysOf D i := by
  unfold waysOf
  rw [List.filter_append, List.map_append]
theorem waysOf_one (i : Nat) (p : Nat × List ByteArray) : waysOf [(i, p)] i = [p] := by simp [waysOf]
theorem waysOf_no (i j : Nat) (p : Nat × List ByteArray) (h : i ≠ j) : waysOf [(i, p)] j = [] := by simp [waysOf, h]
theorem waysOf_len (G : Log) (i : Nat) : (waysOf G i).length ≤ G.length := by
  unfold waysOf
  rw [List.length_map]
  exact List.length_filter_le _ _
theorem waysOf_mem {G : Log} {i : Nat} {p : Nat × List ByteArray} : p ∈ waysOf G i ↔ (i, p) ∈ G := by
  unfold waysOf
  rw [List.mem_map]
  constructor
  · rintro ⟨g, hg, rfl⟩
    obtain ⟨h1, h2⟩ := List.mem_filter.1 hg
    have : g.1 = i := by simpa using h2
    rw [← this]
    exact h1
  · intro h
    exact ⟨(i, p), List.mem_filter.2 ⟨h, by simp⟩, rfl⟩
theorem waysOf_nil {G : Log} {n : Nat} (h : ∀ g ∈ G, g.1 < n) : waysOf G n = [] := by
  unfold waysOf
  rw [List.map_eq_nil_iff, List.filter_eq_nil_iff]
  intro g hg
  have := h g hg
  simp
  omega
/-- Names in a block of names. -/
def BindR (w : World) (o : Option Addr) (l : List ByteArray) : Prop := l = [] ∨ ∃ b off cur, o = some ⟨b, off, none⟩ ∧ w.heap[b]? = some (.cells cur 9 (0, 0)) ∧ (∀ j s, l[j]? = some s → cur[off + j]? = some (.string s)) ∧ (∀ s ∈ l, s.size ≤ maxLen)
theorem BindR.keep {w w' : World} {o : Option Addr} {l : List ByteArray} (h : BindR w o l) (hb : ∀ (b : Nat) (cur : Array Value), w.heap[b]? = some (.cells cur 9 (0, 0)) → w'.heap[b]? = w.heap[b]?) : BindR w' o l := by
  rcases h with h | ⟨b, off, cur, h1, h2, h3, h4⟩
  · exact .inl h
  · exact .inr ⟨b, off, cur, h1, (hb b cur h2).trans h2, h3, h4⟩
theorem BindR.later {w w' : World} {o : Option Addr} {l : List ByteArray} (h : BindR w o l) (hb : Below w.heap.size w w') : BindR w' o l := h.keep fun b cur hc => hb.block b (heap_lt hc)
theorem BindR.nil (w : World) (o : Option Addr) : BindR w o [] := .inl rfl
def WayV (w : World) (ps : List (Nat × List ByteArray)) (v : Value) : Prop := ∃ xs, w.ownsRow 0 178 2 v ps.length xs ∧ ∀ (j : Nat) (p : Nat × List ByteArray), ps[j]? = some p → ∃ o c, xs[j * 2]? = some (.int .i64 (p.1 : Int)) ∧ xs[j * 2 + 1]? = some (.slice o p.2.length c) ∧ BindR w o p.2
theorem WayV.keep {w w' : World} {ps : List (Nat × List ByteArray)} {v : Value} (h : WayV w ps v) (hb : ∀ (g : Nat) (cur : Array Value), w.heap[g]? = some (.cells cur 178 (0, 0)) → v.ownBlock = some g → w'.heap[g]? = w.heap[g]?) (hs : ∀ (b : Nat) (cur : Array Value), w.heap[b]? = some (.cells cur 9 (0, 0)) → w'.heap[b]? = w.heap[b]?) : WayV w' ps v := by
  obtain ⟨xs, ⟨h2, h3⟩, h4⟩ := h
  refine ⟨xs, ⟨h2, ?_⟩, fun j p hj => ?_⟩
  · rcases h3 with h3 | ⟨g, cap, cur, hv, hbg, hg, rest⟩
    · exact .inl h3
    · exact .inr ⟨g, cap, cur, hv, hbg, (hb g cur hg (by rw [hv]; rfl)).trans hg, rest⟩
  · obtain ⟨o, c, e1, e2, e3⟩ := h4 j p hj
    exact ⟨o, c, e1, e2, e3.keep hs⟩
theorem WayV.lt {w : World} {ps : List (Nat × List ByteArray)} {v : Value} (h : WayV w ps v) : ∀ g, v.ownBlock = some g → g < w.heap.size := by
  obtain ⟨xs, h2, -⟩ := h
  exact fun g hg => (owns_lt h2 g hg).1
theorem WayV.nil (w : World) : WayV w [] (.slice none 0 0) := ⟨[], World.ownsRow_nil _ _ _ _, fun j p hj => by simp at hj⟩

/-- The net: its places (what each is of), and its maps. -/
structure NetR (KP KS : Nat → Prop) (w : World) (n : Nat) (ks : List (Bool × Addr)) (G : Log) (l1 l2 : List (Addr × Nat)) (pv : Value) (me md : Nat) (ws : List Value) : Prop where
  obj : w.heap[n]? = some (.cells #[pv, .map (some me), .map (some md), .int .i64 0] 93 (0, 0))
  row : w.ownsRow 0 100 4 pv ks.length (rowN ks ws)
  lenw : ws.length = ks.length
  m1 : PMap w me l1
  m2 : PMap w md l2
  neq : me ≠ md
  off : ¬ KS n ∧ ¬ KS me ∧ ¬ KS md
  offr : ∀ g, pv.ownBlock = some g → ¬ KS g
  offw : ∀ v ∈ ws, ∀ g, v.ownBlock = some g → ¬ KS g
  kslt : ∀ b, KS b → b < w.heap.size
  way : ∀ i v, ws[i]? = some v → WayV w (waysOf G i) v
  glt : ∀ g ∈ G, g.1 < ks.length
  apart : ∀ (i j : Nat) (v v' : Value) (g : Nat), i ≠ j → ws[i]? = some v → ws[j]? = some v' → v.ownBlock = some g → v'.ownBlock ≠ some g
  idx1 : ∀ a i, (a, i) ∈ l1 → ks[i]? = some (true, a)
  idx2 : ∀ a i, (a, i) ∈ l2 → ks[i]? = some (false, a)
  kk : ∀ k ∈ ks, KP k.2.block
  plain : ∀ b, KP b → KS b ∧ PlainAt w ⟨b, 0, none⟩
def Net (KP KS : Nat → Prop) (w : World) (n : Nat) (ks : List (Bool × Addr)) (G : Log) : Prop := ∃ l1 l2 pv me md ws, NetR KP KS w n ks G l1 l2 pv me md ws
section
variable {KP KS : Nat → Prop} {w : World} {n : Nat} {ks : List (Bool × Addr)} {G : Log} {l1 l2 : List (Addr × Nat)} {pv : Value} {me md : Nat} {ws : List Value}
theorem NetR.plainAt (h : NetR KP KS w n ks G l1 l2 pv me md ws) {a : Addr} (ha : KP a.block) : PlainAt w a := by
  obtain ⟨-, c, e, h1⟩ := h.plain a.block ha
  exact ⟨c, e, h1⟩
theorem NetR.keys1 (h : NetR KP KS w n ks G l1 l2 pv me md ws) : ∀ b ∈ keysOf l1, PlainAt w b := by
  intro b hb
  obtain ⟨⟨a, i⟩, hp, rfl⟩ := List.mem_map.1 hb
  exact h.plainAt (h.kk _ (List.mem_of_getElem? (h.idx1 a i hp)))
theorem NetR.keys2 (h : NetR KP KS w n ks G l1 l2 pv me md ws) : ∀ b ∈ keysOf l2, PlainAt w b := by
  intro b hb
  obtain ⟨⟨a, i⟩, hp, rfl⟩ := List.mem_map.1 hb
  exact h.plainAt (h.kk _ (List.mem_of_getElem? (h.idx2 a i hp)))
/-- Any change that leaves what the net is made of. -/
theorem NetR.later {w' : World} (h : NetR KP KS w n ks G l1 l2 pv me md ws) (hs : w.heap.size ≤ w'.heap.size) (hb : ∀ k, k < w.heap.size → w'.heap[k]? = w.heap[k]?) : NetR KP KS w' n ks G l1 l2 pv me md ws := by
  obtain ⟨obj, row, lenw, m1, m2, neq, off, offr, offw, kslt, way, glt, apart, idx1, idx2, kk, plain⟩ := h
  refine ⟨(hb n (heap_lt obj)).trans obj, owns_block row fun g hg => hb g (owns_lt row g hg).1, lenw, m1.keep (hb me m1.lt), m2.keep (hb md m2.lt), neq, off, offr, offw, fun b hb => Nat.lt_of_lt_of_le (kslt b hb) hs, fun i v hv => (way i v hv).keep (fun g cur hg _ => hb g (heap_lt hg)) (fun g cur hg => hb g (heap_lt hg)), glt, apart, idx1, idx2, kk, fun b hKb => ?_⟩
  obtain ⟨h1, c, e, h2⟩ := plain b hKb
  exact ⟨h1, c, e, (hb b (heap_lt h2)).trans h2⟩
end
theorem Net.later {KP KS : Nat → Prop} {w w' : World} {n : Nat} {ks : List (Bool × Addr)} {G : Log} (h : Net KP KS w n ks G) (hb : Below w.heap.size w w') : Net KP KS w' n ks G := by
  obtain ⟨l1, l2, pv, me, md, ws, h⟩ := h
  exact ⟨l1, l2, pv, me, md, ws, h.later hb.size fun k hk => hb.block k hk⟩
theorem Net.lt {KP KS : Nat → Prop} {w : World} {n : Nat} {ks : List (Bool × Addr)} {G : Log} (h : Net KP KS w n ks G) : n < w.heap.size := by
  obtain ⟨l1, l2, pv, me, md, ws, h⟩ := h
  exact heap_lt h.obj
/-- Blocks made since stay, too. -/
theorem Net.more {KP KS : Nat → Prop} {w w' : World} {n : Nat} {ks : List (Bool × Addr)} {G : Log} (h : Net KP KS w n ks G) (hb : Below w.heap.size w w') : Net KP (fun k => KS k ∨ (w.heap.size ≤ k ∧ k < w'.heap.size)) w' n ks G := by
  obtain ⟨l1, l2, pv, me, md, ws, h⟩ := h
  have h2 := h.later hb.size fun k hk => hb.block k hk
  refine ⟨l1, l2, pv, me, md, ws, ⟨h2.obj, h2.row, h2.lenw, h2.m1, h2.m2, h2.neq, ?_, ?_, ?_, ?_, h2.way, h2.glt, h2.apart, h2.idx1, h2.idx2, h2.kk, fun b hb2 => ⟨.inl (h2.plain b hb2).1, (h2.plain b hb2).2⟩⟩⟩
  · have a1 := heap_lt h.obj
    have a2 := h.m1.lt
    have a3 := h.m2.lt
    refine ⟨fun e => ?_, fun e => ?_, fun e => ?_⟩
    · rcases e with e | e
      · exact h.off.1 e
      · omega
    · rcases e with e | e
      · exact h.off.2.1 e
      · omega
    · rcases e with e | e
      · exact h.off.2.2 e
      · omega
  · intro g hg e
    have := (owns_lt h.row g hg).1
    rcases e with e | e
    · exact h.offr g hg e
    · omega
  · intro v hv g hg e
    obtain ⟨i, hi⟩ := List.mem_iff_getElem?.1 hv
    have := (h.way i v hi).lt g hg
    rcases e with e | e
    · exact h.offw v hv g hg e
    · omega
  · intro b e
    rcases e with e | e
    · exact h2.kslt b e
    · exact e.2
theorem Net.less {KP KS KS' : Nat → Prop} {w : World} {n : Nat} {ks : List (Bool × Addr)} {G : Log} (h : Net KP KS w n ks G) (hk : ∀ b, KS' b → KS b) (hp : ∀ b, KP b → KS' b) : Net KP KS' w n ks G := by
  obtain ⟨l1, l2, pv, me, md, ws, h⟩ := h
  exact ⟨l1, l2, pv, me, md, ws, ⟨h.obj, h.row, h.lenw, h.m1, h.m2, h.neq, ⟨fun e => h.off.1 (hk _ e), fun e => h.off.2.1 (hk _ e), fun e => h.off.2.2 (hk _ e)⟩, fun g hg e => h.offr g hg (hk _ e), fun v hv g hg e => h.offw v hv g hg (hk _ e), fun b hb => h.kslt b (hk b hb), h.way, h.glt, h.apart, h.idx1, h.idx2, h.kk, fun b hb => ⟨hp b hb, (h.plain b hb).2⟩⟩⟩
theorem place_info : (Tryz.prog.info? 100).map (fun i => (i.zero, i.size, i.bytes)) = some (some (.agg #[.pointer none, .pointer none, .slice none 0 0, .int .i64 0]), 4, 48) := by kernel_rfl
theorem way_info : (Tryz.prog.info? 178).map (fun i => (i.zero, i.size, i.bytes)) = some (some (.agg #[.int .i64 0, .slice none 0 0]), 2, 32) := by kernel_rfl

set_option maxHeartbeats 1000000 in
set_option maxRecDepth 100000 in
theorem newNet_any (KP KS : Nat → Prop) (w : World) (hks : ∀ b, KS b → b < w.heap.size) (hp : ∀ b, KP b → KS b ∧ PlainAt w ⟨b, 0, none⟩) : Calls Tryz.prog 72 #[] w fun e w' => ∃ n, e = .returned (.pointer (some ⟨n, 0, none⟩)) ∧ Net KP KS w' n [] [] ∧ Below w.heap.size w w' := by
  have hmm := @run_makeMap Tryz.prog
  have HP := hide hp
  have HKS := hide hks
  clear hp hks
  go_enter Tryz.func72, Tryz.ntmps72
  go_wp2
  go_ret
  have hb : Below w.heap.size w (((w.alloc (.map #[] 0)).alloc (.map #[] 0)).alloc (.cells #[.slice none 0 0, .map (some w.heap.size), .map (some (w.heap.size + 1)), .int .i64 0] 93)) := (((Below.refl _ w).alloc (Nat.le_refl _) _).alloc (by simp) _).alloc (by simp; omega) _
  refine ⟨w.heap.size + 1 + 1, rfl, ⟨[], [], .slice none 0 0, w.heap.size, w.heap.size + 1, [], ⟨?_, World.ownsRow_nil _ _ _ _, rfl, ?_, ?_, by omega, ⟨fun e => (by have := HKS.out _ e; omega), fun e => (by have := HKS.out _ e; omega), fun e => (by have := HKS.out _ e; omega)⟩, fun g hg => (by cases hg), fun v hv => (by cases hv), fun b hb2 => (by have := HKS.out b hb2; have := hb.size; omega), fun i v hv => (by simp at hv), fun g hg => (by cases hg), fun i j v v' g _ h => (by simp at h), fun a i h => (by cases h), fun a i h => (by cases h), fun k hk => (by cases hk), fun b hKb => ?_⟩⟩, hb⟩
  · have h9 := heap_alloc_new ((w.alloc (.map #[] 0)).alloc (.map #[] 0)) (.cells #[.slice none 0 0, .map (some w.heap.size), .map (some (w.heap.size + 1)), .int .i64 0] 93)
    simpa using h9
  · have h9 := (PMap.new w).keep (w' := ((w.alloc (.map #[] 0)).alloc (.map #[] 0)).alloc (.cells #[.slice none 0 0, .map (some w.heap.size), .map (some (w.heap.size + 1)), .int .i64 0] 93)) ((heap_alloc_old _ _ (by simp; omega)).trans (heap_alloc_old _ _ (by simp)))
    exact h9
  · have h9 := (PMap.new (w.alloc (.map #[] 0))).keep (w' := ((w.alloc (.map #[] 0)).alloc (.map #[] 0)).alloc (.cells #[.slice none 0 0, .map (some w.heap.size), .map (some (w.heap.size + 1)), .int .i64 0] 93)) (heap_alloc_old _ _ (by simp))
    simpa using h9
  · obtain ⟨h1, c, e, h2⟩ := HP.out b hKb
    exact ⟨h1, c, e, (hb.block b (HKS.out b h1)).trans h2⟩
end Go.Proofs.YtlaeenfeajkcfalGreat.Fr
namespace Go.Proofs.YtlaeenfeajkcfalGreat.Fr
open Go.ChangeShapes Go.WideShapes Go.ChangeAt Go.RowKit Go.Proofs.YtlaeenfeajkcfalGreat.Nm
set_option linter.unusedVariables false

set_option maxHeartbeats 2000000 in
set_option maxRecDepth 100000 in
theorem placeOfExp_any {KP KS : Nat → Prop} {w : World} {n : Nat} {ks : List (Bool × Addr)} {G : Log} (h : Net KP KS w n ks G) (hk : ks.length ≤ 50000000) (a : Addr) (ha : KP a.block) :
    Calls Tryz.prog 144 #[.pointer (some ⟨n, 0, none⟩), .pointer (some a)] w fun e w' => ∃ (i : Nat) (new : List (Bool × Addr)), e = .returned (.int .i64 (i : Int)) ∧ Net KP KS w' n (ks ++ new) G ∧ (new = [] ∨ new = [(true, a)]) ∧ (ks ++ new)[i]? = some (true, a) ∧ Keeps KS w w' := by
  obtain ⟨l1, l2, pv, me, md, ws, h⟩ := h
  have hlook := PMap.look2 Tryz.underlying90 ptr_exp zero_int h.m1 (h.plainAt ha) h.keys1
  obtain ⟨op, cp, hpv⟩ := owns_form h.row
  subst hpv
  have z0 := cell_of h.obj 0
  have z1 := cell_of h.obj 1
  have z2 := cell_of h.obj 2
  simp only [List.getElem?_toArray, List.getElem?_cons_succ, List.getElem?_cons_zero] at z0 z1 z2
  cases hf : findA l1 a 0 with
  | some x =>
    obtain ⟨j, h1, h2, -⟩ := findA_at l1 a 0 x hf
    have hg : getA l1 a = x.2 := by unfold getA; rw [hf]; rfl
    have hmem : (a, x.2) ∈ l1 := List.mem_of_getElem? h2
    have HI := hide (h.idx1 a x.2 hmem)
    rw [hf, hg] at hlook
    simp only [Option.isSome_some] at hlook
    have HN : Hid (Net KP KS w n ks G) := ⟨_, _, _, _, _, _, h⟩
    have hlt : x.2 < ks.length := (List.getElem?_eq_some_iff.1 HI.out).1
    clear h h1 h2 hf hg hmem
    go_enter Tryz.func144, Tryz.ntmps144
    go_wp2
    go_ret
    refine ⟨x.2, [], rfl, by rw [List.append_nil]; exact HN.out, .inl rfl, by rw [List.append_nil]; exact HI.out, Keeps.refl _ _⟩
  | none =>
    rw [hf] at hlook
    simp only [Option.isSome_none] at hlook
    obtain ⟨w2, hup, hm1, hbu, hs2⟩ := h.m1.update Tryz.underlying90 ptr_exp (a := a) ks.length (h.plainAt ha) h.keys1
    have hl2 := findA_no l1 a 0 hf
    have hnm : n ≠ me := fun e => by
      obtain ⟨es, c, h1, -⟩ := h.m1
      rw [← e, h.obj] at h1
      cases h1
    have hcellm : ∀ (g : Nat) (cur : Array Value) (t : TypeId), w.heap[g]? = some (.cells cur t (0, 0)) → g ≠ me := fun g cur t hg e => by
      obtain ⟨es, c, h1, -⟩ := h.m1
      rw [← e, hg] at h1
      cases h1
    have hcw2 : ∀ (g : Nat) (cur : Array Value) (t : TypeId), w.heap[g]? = some (.cells cur t (0, 0)) → w2.heap[g]? = w.heap[g]? := fun g cur t hg => hbu.block g ⟨heap_lt hg, hcellm g cur t hg⟩
    have hobj2 := (hcw2 n _ _ h.obj).trans h.obj
    have hrow2 : w2.ownsRow 0 100 4 (.slice op ks.length cp) ks.length (rowN ks ws) := by
      obtain ⟨hl, hc⟩ := h.row
      refine ⟨hl, ?_⟩
      rcases hc with hc | ⟨g, cap, cur, hv, hb1, hg, rest⟩
      · exact Or.inl hc
      · exact Or.inr ⟨g, cap, cur, hv, hb1, (hcw2 g cur _ hg).trans hg, rest⟩
    have hB2 : Below w2.heap.size w2 (w2.alloc (.cells #[.pointer (some a), .pointer none, .slice none 0 0, .int .i64 0] 100)) := (Below.refl _ w2).alloc (Nat.le_refl _) _
    have hrow3 := owns_block (w' := w2.alloc (.cells #[.pointer (some a), .pointer none, .slice none 0 0, .int .i64 0] 100)) hrow2 fun g hg => hB2.block g (owns_lt hrow2 g hg).1
    obtain ⟨i0, hi, hz0, hz1, hz2⟩ := info_parts place_info
    obtain ⟨v4, w4, hr4, hown4, hgr4, hbk4⟩ := app_run (P := Tryz.prog) Tryz.underlying89 hi hz0 hz1 hz2 rfl (by decide) (by decide) hrow3 (Nat.zero_le _) (some ⟨w2.heap.size, 0, none⟩) 1 1 [.pointer (some a), .pointer none, .slice none 0 0, .int .i64 0] rfl (fun _ => ⟨w2.heap.size, 0, rfl, fun j u hu => by
      rw [Nat.zero_add, cell_of (heap_alloc_new w2 (.cells #[.pointer (some a), .pointer none, .slice none 0 0, .int .i64 0] 100)), List.getElem?_toArray]
      exact hu⟩) (fun u hu => by
      simp only [List.mem_cons, List.not_mem_nil, or_false] at hu
      rcases hu with rfl | rfl | rfl | rfl <;> rfl) (by omega) 89
    obtain ⟨o4, c4, hv4⟩ := owns_form hown4
    have hr4b := hr4
    rw [hv4] at hr4b
    rw [hs2] at hr4b
    have HR4 := hide hr4b
    have hcw4 : ∀ (g : Nat) (cur : Array Value) (t : TypeId), t ≠ 100 → w.heap[g]? = some (.cells cur t (0, 0)) → w4.heap[g]? = w.heap[g]? := fun g cur t ht hg => by
      have hlt := heap_lt hg
      have e1 := hcw2 g cur t hg
      have e2 := hB2.block g (by omega)
      refine (hgr4.block g (by have := hB2.size; omega) fun e => ?_).trans (e2.trans e1)
      obtain ⟨hl, hc⟩ := hrow3
      rcases hc with ⟨hv, -⟩ | ⟨g', cap, cur', hv, hb1, hg', rest⟩
      · rw [hv] at e; cases e
      · rw [hv] at e
        cases e
        rw [e2, e1, hg] at hg'
        cases hg'
        exact ht rfl
    have hother4 : ∀ (g : Nat), g < w.heap.size → (∀ (cur : Array Value), w.heap[g]? ≠ some (.cells cur 100 (0, 0))) → g ≠ me → w4.heap[g]? = w.heap[g]? := fun g hlt hnc hne => by
      have e1 := hbu.block g ⟨hlt, hne⟩
      have e2 := hB2.block g (by omega)
      refine (hgr4.block g (by have := hB2.size; omega) fun e => ?_).trans (e2.trans e1)
      obtain ⟨hl, hc⟩ := hrow3
      rcases hc with ⟨hv, -⟩ | ⟨g', cap, cur', hv, hb1, hg', rest⟩
      · rw [hv] at e; cases e
      · rw [hv] at e
        cases e
        rw [e2, e1] at hg'
        exact hnc _ hg'
    have hobj4 := (hcw4 n _ _ (by decide) h.obj).trans h.obj
    have hm4 : PMap w4 me (setA l1 a ks.length) := by
      obtain ⟨es, c, g1, g2⟩ := hm1
      refine ⟨es, c, ?_, g2⟩
      have hlt := h.m1.lt
      refine (hgr4.block me (by have := hB2.size; omega) fun e => ?_).trans ((hB2.block me (by omega)).trans g1)
      obtain ⟨hl, hc⟩ := hrow3
      rcases hc with ⟨hv, -⟩ | ⟨g', cap, cur', hv, hb1, hg', rest⟩
      · rw [hv] at e; cases e
      · rw [hv] at e
        have e9 : me = g' := Option.some.inj e
        rw [← e9, hB2.block me (by omega), g1] at hg'
        cases hg'
    have hmo4 : PMap w4 md l2 := h.m2.keep (hother4 md h.m2.lt (fun cur hc => by
      obtain ⟨es, c, g1, -⟩ := h.m2
      rw [hc] at g1
      cases g1) (h.neq.symm))
    have y0 := frozen_of hobj4 0
    have y1 := cell_of hobj4 0
    simp only [List.getElem?_toArray, List.getElem?_cons_zero] at y1
    have x0 := cell_of hobj2 0
    have x1 := cell_of hobj2 1
    simp only [List.getElem?_toArray, List.getElem?_cons_succ, List.getElem?_cons_zero] at x0 x1
    have hbig : Hid (Net KP KS (w4.setCell ⟨n, 0, none⟩ v4) n (ks ++ [(true, a)]) G ∧ Keeps KS w (w4.setCell ⟨n, 0, none⟩ v4)) := by
      have hset : ∀ g, g ≠ n → (w4.setCell ⟨n, 0, none⟩ v4).heap[g]? = w4.heap[g]? := fun g hg => heap_set_other v4 hg
      have hn4 : ∀ g, v4.ownBlock = some g → g ≠ n := fun g hg e => by
        subst e
        obtain ⟨hl, hc⟩ := hown4
        rcases hc with ⟨hv, -⟩ | ⟨g', cap, cur', hv, hb1, hg', rest⟩
        · rw [hv] at hg; cases hg
        · rw [hv] at hg
          cases hg
          rw [hobj4] at hg'
          cases hg'
      have hlow : Keeps KS w w4 := by
        have e0 : Keeps KS w w2 := ⟨hbu.os, hbu.tape, hbu.output, hbu.size, fun k hk => hbu.block k ⟨h.kslt k hk, fun e => by rw [e] at hk; exact h.off.2.1 hk⟩⟩
        have e1 : Keeps KS w2 (w2.alloc (.cells #[.pointer (some a), .pointer none, .slice none 0 0, .int .i64 0] 100)) := keeps_of hB2 fun k hk => by have := h.kslt k hk; omega
        have e2 : Keeps KS (w2.alloc (.cells #[.pointer (some a), .pointer none, .slice none 0 0, .int .i64 0] 100)) w4 := keeps_grown hgr4 (fun k hk => by have := h.kslt k hk; have := hB2.size; omega) fun k hk => h.offr k hk
        exact (e0.trans e1).trans e2
      have hlt4 : w.heap.size ≤ w4.heap.size := by have := hB2.size; have := hgr4.size; omega
      refine ⟨⟨(setA l1 a ks.length), l2, v4, me, md, ws ++ [.slice none 0 0], ⟨?_, ?_, ?_, ?_, ?_, h.neq, h.off, ?_, ?_, ?_, ?_, ?_, ?_, ?_, ?_, ?_, ?_⟩⟩, hlow.trans (keeps_set w4 n 0 v4 h.off.1)⟩
      · have h9 := heap_set_same (j := 0) v4 hobj4
        simpa using h9
      · rw [rowN_snoc ks ws _ _ h.lenw, List.length_append]
        refine owns_block ?_ fun g hg => hset g (hn4 g hg)
        exact hown4
      · rw [List.length_append, List.length_append, h.lenw]; rfl
      · exact hm4.keep (hset me fun e => by
          have h9 := hm4
          obtain ⟨es, c, g1, -⟩ := h9
          rw [e, hobj4] at g1
          cases g1)
      · exact hmo4.keep (hset md fun e => by
          have h9 := hmo4
          obtain ⟨es, c, g1, -⟩ := h9
          rw [e, hobj4] at g1
          cases g1)
      · intro g hg e
        rcases hbk4 with e1 | e1
        · rw [e1] at hg
          exact h.offr g hg e
        · rw [e1] at hg
          have e9 := Option.some.inj hg
          have := h.kslt g e
          have := hB2.size
          omega
      · intro v hv g hg e
        rcases List.mem_append.1 hv with hv | hv
        · exact h.offw v hv g hg e
        · rw [List.mem_singleton] at hv
          rw [hv] at hg
          cases hg
      · intro b hb
        have := h.kslt b hb
        have h9 : (w4.setCell ⟨n, 0, none⟩ v4).heap.size = w4.heap.size := by simp
        omega
      · intro i v hv
        rw [List.getElem?_append] at hv
        split at hv
        · refine (h.way i v hv).keep (fun g cur hg _ => (hset g fun e => ?_).trans (hcw4 g cur _ (by decide) hg)) (fun g cur hg => (hset g fun e => ?_).trans (hcw4 g cur _ (by decide) hg))
          · subst e
            rw [h.obj] at hg
            cases hg
          · subst e
            rw [h.obj] at hg
            cases hg
        · rename_i hge
          have hx : v = .slice none 0 0 := by
            have := List.mem_of_getElem? hv
            simpa using this
          have hie : i = ks.length := by
            have := (List.getElem?_eq_some_iff.1 hv).1
            rw [List.length_singleton] at this
            rw [h.lenw] at this hge
            omega
          rw [hx, hie, waysOf_nil h.glt]
          exact WayV.nil _
      · intro g hg
        have := h.glt g hg
        rw [List.length_append]
        omega
      · intro i j v v' g hij hv hv' hg
        rw [List.getElem?_append] at hv hv'
        split at hv <;> split at hv'
        · exact h.apart i j v v' g hij hv hv' hg
        · have hx : v' = .slice none 0 0 := by
            have := List.mem_of_getElem? hv'
            simpa using this
          rw [hx]
          intro hh
          cases hh
        · have hx : v = .slice none 0 0 := by
            have := List.mem_of_getElem? hv
            simpa using this
          rw [hx] at hg
          cases hg
        · have hx : v = .slice none 0 0 := by
            have := List.mem_of_getElem? hv
            simpa using this
          rw [hx] at hg
          cases hg
      · intro b i hb
        rw [hl2.2 ks.length] at hb
        rcases List.mem_append.1 hb with hb | hb
        · have h9 := h.idx1 b i hb
          rw [List.getElem?_append_left (List.getElem?_eq_some_iff.1 h9).1]
          exact h9
        · rw [List.mem_singleton] at hb
          cases hb
          rw [List.getElem?_append_right (Nat.le_refl _), Nat.sub_self]
          rfl
      · intro b i hb
        have h9 := h.idx2 b i hb; rw [List.getElem?_append_left (List.getElem?_eq_some_iff.1 h9).1]; exact h9
      · intro k hk
        rcases List.mem_append.1 hk with hk | hk
        · exact h.kk k hk
        · rw [List.mem_singleton] at hk
          rw [hk]
          exact ha
      · intro b hb
        obtain ⟨h1, c, e, h2⟩ := h.plain b hb
        exact ⟨h1, c, e, ((hlow.trans (keeps_set w4 n 0 v4 h.off.1)).block b h1).trans h2⟩
    have HLT : Hid ((ks ++ [(true, a)])[ks.length]? = some (true, a)) := by
      show (ks ++ [(true, a)])[ks.length]? = some (true, a)
      rw [List.getElem?_append_right (Nat.le_refl _), Nat.sub_self]
      rfl
    rw [hv4] at hbig
    clear hv4 hr4b h hf hm1 hbu hl2 hnm hcellm hcw2 hobj2 hrow2 hB2 hrow3 hi hz0 hz1 hz2 hr4 hown4 hgr4 hbk4 hcw4 hother4 hobj4 hm4 hmo4
    go_enter Tryz.func144, Tryz.ntmps144
    go_wp2_with (at_builtin; refine Lib.wpList_append_run _ rfl _ _ _ _ rfl _ _ rfl rfl _ _ HR4.out ?_)
    go_ret
    exact ⟨ks.length, [(true, a)], rfl, hbig.out.1, .inr rfl, HLT.out, hbig.out.2⟩

set_option maxHeartbeats 2000000 in
set_option maxRecDepth 100000 in
theorem placeOfDec_any {KP KS : Nat → Prop} {w : World} {n : Nat} {ks : List (Bool × Addr)} {G : Log} (h : Net KP KS w n ks G) (hk : ks.length ≤ 50000000) (a : Addr) (ha : KP a.block) :
    Calls Tryz.prog 73 #[.pointer (some ⟨n, 0, none⟩), .pointer (some a)] w fun e w' => ∃ (i : Nat) (new : List (Bool × Addr)), e = .returned (.int .i64 (i : Int)) ∧ Net KP KS w' n (ks ++ new) G ∧ (new = [] ∨ new = [(false, a)]) ∧ (ks ++ new)[i]? = some (false, a) ∧ Keeps KS w w' := by
  obtain ⟨l1, l2, pv, me, md, ws, h⟩ := h
  have hlook := PMap.look2 Tryz.underlying91 ptr_dec zero_int h.m2 (h.plainAt ha) h.keys2
  obtain ⟨op, cp, hpv⟩ := owns_form h.row
  subst hpv
  have z0 := cell_of h.obj 0
  have z1 := cell_of h.obj 1
  have z2 := cell_of h.obj 2
  simp only [List.getElem?_toArray, List.getElem?_cons_succ, List.getElem?_cons_zero] at z0 z1 z2
  cases hf : findA l2 a 0 with
  | some x =>
    obtain ⟨j, h1, h2, -⟩ := findA_at l2 a 0 x hf
    have hg : getA l2 a = x.2 := by unfold getA; rw [hf]; rfl
    have hmem : (a, x.2) ∈ l2 := List.mem_of_getElem? h2
    have HI := hide (h.idx2 a x.2 hmem)
    rw [hf, hg] at hlook
    simp only [Option.isSome_some] at hlook
    have HN : Hid (Net KP KS w n ks G) := ⟨_, _, _, _, _, _, h⟩
    have hlt : x.2 < ks.length := (List.getElem?_eq_some_iff.1 HI.out).1
    clear h h1 h2 hf hg hmem
    go_enter Tryz.func73, Tryz.ntmps73
    go_wp2
    go_ret
    refine ⟨x.2, [], rfl, by rw [List.append_nil]; exact HN.out, .inl rfl, by rw [List.append_nil]; exact HI.out, Keeps.refl _ _⟩
  | none =>
    rw [hf] at hlook
    simp only [Option.isSome_none] at hlook
    obtain ⟨w2, hup, hm1, hbu, hs2⟩ := h.m2.update Tryz.underlying91 ptr_dec (a := a) ks.length (h.plainAt ha) h.keys2
    have hl2 := findA_no l2 a 0 hf
    have hnm : n ≠ md := fun e => by
      obtain ⟨es, c, h1, -⟩ := h.m2
      rw [← e, h.obj] at h1
      cases h1
    have hcellm : ∀ (g : Nat) (cur : Array Value) (t : TypeId), w.heap[g]? = some (.cells cur t (0, 0)) → g ≠ md := fun g cur t hg e => by
      obtain ⟨es, c, h1, -⟩ := h.m2
      rw [← e, hg] at h1
      cases h1
    have hcw2 : ∀ (g : Nat) (cur : Array Value) (t : TypeId), w.heap[g]? = some (.cells cur t (0, 0)) → w2.heap[g]? = w.heap[g]? := fun g cur t hg => hbu.block g ⟨heap_lt hg, hcellm g cur t hg⟩
    have hobj2 := (hcw2 n _ _ h.obj).trans h.obj
    have hrow2 : w2.ownsRow 0 100 4 (.slice op ks.length cp) ks.length (rowN ks ws) := by
      obtain ⟨hl, hc⟩ := h.row
      refine ⟨hl, ?_⟩
      rcases hc with hc | ⟨g, cap, cur, hv, hb1, hg, rest⟩
      · exact Or.inl hc
      · exact Or.inr ⟨g, cap, cur, hv, hb1, (hcw2 g cur _ hg).trans hg, rest⟩
    have hB2 : Below w2.heap.size w2 (w2.alloc (.cells #[.pointer none, .pointer (some a), .slice none 0 0, .int .i64 0] 100)) := (Below.refl _ w2).alloc (Nat.le_refl _) _
    have hrow3 := owns_block (w' := w2.alloc (.cells #[.pointer none, .pointer (some a), .slice none 0 0, .int .i64 0] 100)) hrow2 fun g hg => hB2.block g (owns_lt hrow2 g hg).1
    obtain ⟨i0, hi, hz0, hz1, hz2⟩ := info_parts place_info
    obtain ⟨v4, w4, hr4, hown4, hgr4, hbk4⟩ := app_run (P := Tryz.prog) Tryz.underlying89 hi hz0 hz1 hz2 rfl (by decide) (by decide) hrow3 (Nat.zero_le _) (some ⟨w2.heap.size, 0, none⟩) 1 1 [.pointer none, .pointer (some a), .slice none 0 0, .int .i64 0] rfl (fun _ => ⟨w2.heap.size, 0, rfl, fun j u hu => by
      rw [Nat.zero_add, cell_of (heap_alloc_new w2 (.cells #[.pointer none, .pointer (some a), .slice none 0 0, .int .i64 0] 100)), List.getElem?_toArray]
      exact hu⟩) (fun u hu => by
      simp only [List.mem_cons, List.not_mem_nil, or_false] at hu
      rcases hu with rfl | rfl | rfl | rfl <;> rfl) (by omega) 89
    obtain ⟨o4, c4, hv4⟩ := owns_form hown4
    have hr4b := hr4
    rw [hv4] at hr4b
    rw [hs2] at hr4b
    have HR4 := hide hr4b
    have hcw4 : ∀ (g : Nat) (cur : Array Value) (t : TypeId), t ≠ 100 → w.heap[g]? = some (.cells cur t (0, 0)) → w4.heap[g]? = w.heap[g]? := fun g cur t ht hg => by
      have hlt := heap_lt hg
      have e1 := hcw2 g cur t hg
      have e2 := hB2.block g (by omega)
      refine (hgr4.block g (by have := hB2.size; omega) fun e => ?_).trans (e2.trans e1)
      obtain ⟨hl, hc⟩ := hrow3
      rcases hc with ⟨hv, -⟩ | ⟨g', cap, cur', hv, hb1, hg', rest⟩
      · rw [hv] at e; cases e
      · rw [hv] at e
        cases e
        rw [e2, e1, hg] at hg'
        cases hg'
        exact ht rfl
    have hother4 : ∀ (g : Nat), g < w.heap.size → (∀ (cur : Array Value), w.heap[g]? ≠ some (.cells cur 100 (0, 0))) → g ≠ md → w4.heap[g]? = w.heap[g]? := fun g hlt hnc hne => by
      have e1 := hbu.block g ⟨hlt, hne⟩
      have e2 := hB2.block g (by omega)
      refine (hgr4.block g (by have := hB2.size; omega) fun e => ?_).trans (e2.trans e1)
      obtain ⟨hl, hc⟩ := hrow3
      rcases hc with ⟨hv, -⟩ | ⟨g', cap, cur', hv, hb1, hg', rest⟩
      · rw [hv] at e; cases e
      · rw [hv] at e
        cases e
        rw [e2, e1] at hg'
        exact hnc _ hg'
    have hobj4 := (hcw4 n _ _ (by decide) h.obj).trans h.obj
    have hm4 : PMap w4 md (setA l2 a ks.length) := by
      obtain ⟨es, c, g1, g2⟩ := hm1
      refine ⟨es, c, ?_, g2⟩
      have hlt := h.m2.lt
      refine (hgr4.block md (by have := hB2.size; omega) fun e => ?_).trans ((hB2.block md (by omega)).trans g1)
      obtain ⟨hl, hc⟩ := hrow3
      rcases hc with ⟨hv, -⟩ | ⟨g', cap, cur', hv, hb1, hg', rest⟩
      · rw [hv] at e; cases e
      · rw [hv] at e
        have e9 : md = g' := Option.some.inj e
        rw [← e9, hB2.block md (by omega), g1] at hg'
        cases hg'
    have hmo4 : PMap w4 me l1 := h.m1.keep (hother4 me h.m1.lt (fun cur hc => by
      obtain ⟨es, c, g1, -⟩ := h.m1
      rw [hc] at g1
      cases g1) (h.neq))
    have y0 := frozen_of hobj4 0
    have y1 := cell_of hobj4 0
    simp only [List.getElem?_toArray, List.getElem?_cons_zero] at y1
    have x0 := cell_of hobj2 0
    have x1 := cell_of hobj2 1
    simp only [List.getElem?_toArray, List.getElem?_cons_succ, List.getElem?_cons_zero] at x0 x1
    have hbig : Hid (Net KP KS (w4.setCell ⟨n, 0, none⟩ v4) n (ks ++ [(false, a)]) G ∧ Keeps KS w (w4.setCell ⟨n, 0, none⟩ v4)) := by
      have hset : ∀ g, g ≠ n → (w4.setCell ⟨n, 0, none⟩ v4).heap[g]? = w4.heap[g]? := fun g hg => heap_set_other v4 hg
      have hn4 : ∀ g, v4.ownBlock = some g → g ≠ n := fun g hg e => by
        subst e
        obtain ⟨hl, hc⟩ := hown4
        rcases hc with ⟨hv, -⟩ | ⟨g', cap, cur', hv, hb1, hg', rest⟩
        · rw [hv] at hg; cases hg
        · rw [hv] at hg
          cases hg
          rw [hobj4] at hg'
          cases hg'
      have hlow : Keeps KS w w4 := by
        have e0 : Keeps KS w w2 := ⟨hbu.os, hbu.tape, hbu.output, hbu.size, fun k hk => hbu.block k ⟨h.kslt k hk, fun e => by rw [e] at hk; exact h.off.2.2 hk⟩⟩
        have e1 : Keeps KS w2 (w2.alloc (.cells #[.pointer none, .pointer (some a), .slice none 0 0, .int .i64 0] 100)) := keeps_of hB2 fun k hk => by have := h.kslt k hk; omega
        have e2 : Keeps KS (w2.alloc (.cells #[.pointer none, .pointer (some a), .slice none 0 0, .int .i64 0] 100)) w4 := keeps_grown hgr4 (fun k hk => by have := h.kslt k hk; have := hB2.size; omega) fun k hk => h.offr k hk
        exact (e0.trans e1).trans e2
      have hlt4 : w.heap.size ≤ w4.heap.size := by have := hB2.size; have := hgr4.size; omega
      refine ⟨⟨l1, (setA l2 a ks.length), v4, me, md, ws ++ [.slice none 0 0], ⟨?_, ?_, ?_, ?_, ?_, h.neq, h.off, ?_, ?_, ?_, ?_, ?_, ?_, ?_, ?_, ?_, ?_⟩⟩, hlow.trans (keeps_set w4 n 0 v4 h.off.1)⟩
      · have h9 := heap_set_same (j := 0) v4 hobj4
        simpa using h9
      · rw [rowN_snoc ks ws _ _ h.lenw, List.length_append]
        refine owns_block ?_ fun g hg => hset g (hn4 g hg)
        exact hown4
      · rw [List.length_append, List.length_append, h.lenw]; rfl
      · exact hmo4.keep (hset me fun e => by
          have h9 := hmo4
          obtain ⟨es, c, g1, -⟩ := h9
          rw [e, hobj4] at g1
          cases g1)
      · exact hm4.keep (hset md fun e => by
          have h9 := hm4
          obtain ⟨es, c, g1, -⟩ := h9
          rw [e, hobj4] at g1
          cases g1)
      · intro g hg e
        rcases hbk4 with e1 | e1
        · rw [e1] at hg
          exact h.offr g hg e
        · rw [e1] at hg
          have e9 := Option.some.inj hg
          have := h.kslt g e
          have := hB2.size
          omega
      · intro v hv g hg e
        rcases List.mem_append.1 hv with hv | hv
        · exact h.offw v hv g hg e
        · rw [List.mem_singleton] at hv
          rw [hv] at hg
          cases hg
      · intro b hb
        have := h.kslt b hb
        have h9 : (w4.setCell ⟨n, 0, none⟩ v4).heap.size = w4.heap.size := by simp
        omega
      · intro i v hv
        rw [List.getElem?_append] at hv
        split at hv
        · refine (h.way i v hv).keep (fun g cur hg _ => (hset g fun e => ?_).trans (hcw4 g cur _ (by decide) hg)) (fun g cur hg => (hset g fun e => ?_).trans (hcw4 g cur _ (by decide) hg))
          · subst e
            rw [h.obj] at hg
            cases hg
          · subst e
            rw [h.obj] at hg
            cases hg
        · rename_i hge
          have hx : v = .slice none 0 0 := by
            have := List.mem_of_getElem? hv
            simpa using this
          have hie : i = ks.length := by
            have := (List.getElem?_eq_some_iff.1 hv).1
            rw [List.length_singleton] at this
            rw [h.lenw] at this hge
            omega
          rw [hx, hie, waysOf_nil h.glt]
          exact WayV.nil _
      · intro g hg
        have := h.glt g hg
        rw [List.length_append]
        omega
      · intro i j v v' g hij hv hv' hg
        rw [List.getElem?_append] at hv hv'
        split at hv <;> split at hv'
        · exact h.apart i j v v' g hij hv hv' hg
        · have hx : v' = .slice none 0 0 := by
            have := List.mem_of_getElem? hv'
            simpa using this
          rw [hx]
          intro hh
          cases hh
        · have hx : v = .slice none 0 0 := by
            have := List.mem_of_getElem? hv
            simpa using this
          rw [hx] at hg
          cases hg
        · have hx : v = .slice none 0 0 := by
            have := List.mem_of_getElem? hv
            simpa using this
          rw [hx] at hg
          cases hg
      · intro b i hb
        have h9 := h.idx1 b i hb; rw [List.getElem?_append_left (List.getElem?_eq_some_iff.1 h9).1]; exact h9
      · intro b i hb
        rw [hl2.2 ks.length] at hb
        rcases List.mem_append.1 hb with hb | hb
        · have h9 := h.idx2 b i hb
          rw [List.getElem?_append_left (List.getElem?_eq_some_iff.1 h9).1]
          exact h9
        · rw [List.mem_singleton] at hb
          cases hb
          rw [List.getElem?_append_right (Nat.le_refl _), Nat.sub_self]
          rfl
      · intro k hk
        rcases List.mem_append.1 hk with hk | hk
        · exact h.kk k hk
        · rw [List.mem_singleton] at hk
          rw [hk]
          exact ha
      · intro b hb
        obtain ⟨h1, c, e, h2⟩ := h.plain b hb
        exact ⟨h1, c, e, ((hlow.trans (keeps_set w4 n 0 v4 h.off.1)).block b h1).trans h2⟩
    have HLT : Hid ((ks ++ [(false, a)])[ks.length]? = some (false, a)) := by
      show (ks ++ [(false, a)])[ks.length]? = some (false, a)
      rw [List.getElem?_append_right (Nat.le_refl _), Nat.sub_self]
      rfl
    rw [hv4] at hbig
    clear hv4 hr4b h hf hm1 hbu hl2 hnm hcellm hcw2 hobj2 hrow2 hB2 hrow3 hi hz0 hz1 hz2 hr4 hown4 hgr4 hbk4 hcw4 hother4 hobj4 hm4 hmo4
    go_enter Tryz.func73, Tryz.ntmps73
    go_wp2_with (at_builtin; refine Lib.wpList_append_run _ rfl _ _ _ _ rfl _ _ rfl rfl _ _ HR4.out ?_)
    go_ret
    exact ⟨ks.length, [(false, a)], rfl, hbig.out.1, .inr rfl, HLT.out, hbig.out.2⟩
end Go.Proofs.YtlaeenfeajkcfalGreat.Fr
namespace Go.Proofs.YtlaeenfeajkcfalGreat.Fr
open Go.ChangeShapes Go.WideShapes Go.ChangeAt Go.RowKit Go.Proofs.YtlaeenfeajkcfalGreat.Nm
set_option linter.unusedVariables false

theorem step_append_run {P : Program} {ops : Array Oper} {o : Oper} {a : Act} {w : World} {K : Act → World → Prop} {Q : Exit → Act → World → Prop} {E : Prop}
    (hg : o.guard = none) (s x : Operand) (t : TypeId) (hop : o.op = Op.call { callee := Callee.builtin Builtin.append, args := #[s, x], argTypes := #[t, t] })
    (v1 v2 v' : Value) (w' : World) (hs : a.eval s = v1) (hx : a.eval x = v2) (hr : (Builtin.append_ #[t, t] o.type #[v1, v2]).run P w = .ok v' w')
    (hK : K (a.put o.dst v') w') : if Region.wanted o (yielded ops a.tmps) = true then Oper.wp P o a w K Q else E := by
  have hw : Region.wanted o (yielded ops a.tmps) = true := by simp [Region.wanted, hg]
  rw [if_pos hw]
  unfold Oper.wp
  simp [execOp, hop, resolve, invoke, builtin, hs, hx, hr, Result.andThen]
  exact hK
theorem owns_set4 {w : World} {B : Nat} {e : TypeId} {g n c : Nat} {xs : List Value} (h : w.ownsRow B e 4 (.slice (some ⟨g, 0, none⟩) n c) n xs) (i : Nat) (u : Value) : (w.setCell ⟨g, i, none⟩ u).ownsRow B e 4 (.slice (some ⟨g, 0, none⟩) n c) n (xs.set i u) := by
  obtain ⟨hl, hc⟩ := h
  refine ⟨by rw [List.length_set]; exact hl, ?_⟩
  rcases hc with ⟨hv, -⟩ | ⟨g', cap, cur, hv, hb, hg, hn, hcap, hsz, htk⟩
  · cases hv
  · cases hv
    refine Or.inr ⟨g, c, cur.set! i u, rfl, hb, heap_set_same u hg, hn, hcap, by simpa using hsz, ?_⟩
    rw [← htk]
    simp [List.take_set]
set_option maxHeartbeats 2000000 in
set_option maxRecDepth 100000 in
theorem lead_any {KP KS : Nat → Prop} {w : World} {n : Nat} {ks : List (Bool × Addr)} {G : Log} (h : Net KP KS w n ks G) (hL : G.length ≤ 50000000) (i : Nat) (hi : i < ks.length) (hk : ks.length ≤ 50000000) (f : Nat) (ob : Option Addr) (B : List ByteArray) (cb : Nat) (hB : BindR w ob B) :
    Calls Tryz.prog 143 #[.pointer (some ⟨n, 0, none⟩), .int .i64 (i : Int), .agg #[.int .i64 (f : Int), .slice ob B.length cb]] w fun e w' => e = .returned (.tuple #[]) ∧ Net KP KS w' n ks (G ++ [(i, f, B)]) ∧ Keeps KS w w' := by
  obtain ⟨l1, l2, pv, me, md, ws, h⟩ := h
  obtain ⟨V, hV⟩ : ∃ V, w.alloc (.cells #[.int .i64 (f : Int), .slice ob B.length cb] 178) = V := ⟨_, rfl⟩
  obtain ⟨W0, HW0⟩ : ∃ W0, Hid (V.drew = W0) := ⟨_, rfl⟩
  have hb0 : Below w.heap.size w W0 := by rw [← HW0.out, ← hV]; exact ((Below.refl _ w).alloc (Nat.le_refl _) _).drew
  have h0 : NetR KP KS W0 n ks G l1 l2 pv me md ws := h.later hb0.size fun k hk => hb0.block k hk
  have hbox : W0.heap[w.heap.size]? = some (.cells #[.int .i64 (f : Int), .slice ob B.length cb] 178 (0, 0)) := by rw [← HW0.out, ← hV]; exact heap_alloc_new w _
  have hsz0 : W0.heap.size = w.heap.size + 1 := by rw [← HW0.out, ← hV]; simp [World.drew]
  obtain ⟨v, hv⟩ : ∃ v, ws[i]? = some v := ⟨ws[i]'(by rw [h.lenw]; exact hi), List.getElem?_eq_getElem _⟩
  obtain ⟨k, hki⟩ : ∃ k, ks[i]? = some k := ⟨ks[i], List.getElem?_eq_getElem hi⟩
  have hB0 : BindR W0 ob B := hB.later hb0
  obtain ⟨xs, hown, hws⟩ := h0.way i v hv
  have hwl := waysOf_len G i
  obtain ⟨m, hm⟩ : ∃ m, (waysOf G i).length = m := ⟨_, rfl⟩
  rw [hm] at hown hwl
  have hmL : m ≤ G.length := hwl
  have hxl : xs.length = m * 2 := hown.1
  obtain ⟨ov, cv, rfl⟩ := owns_form hown
  obtain ⟨g, cp, cur, hpv, -, hg, hnc, hcm, hcs, htk⟩ : ∃ g cap cur, pv = .slice (some ⟨g, 0, none⟩) ks.length cap ∧ 0 ≤ g ∧ W0.heap[g]? = some (.cells cur 100 (0, 0)) ∧ ks.length ≤ cap ∧ cap ≤ maxLen ∧ cur.size = cap * 4 ∧ cur.toList.take (ks.length * 4) = rowN ks ws := by
    rcases h0.row.2 with ⟨-, h9⟩ | ⟨g, cap, cur, h9⟩
    · omega
    · exact ⟨g, cap, cur, h9⟩
  subst hpv
  have hcell : W0.cell? ⟨g, i * 4 + 2, none⟩ = some (.slice ov m cv) := owns_cell hg htk (i * 4 + 2) (by omega) _ (by rw [rowN_get ks ws i k _ hki hv 2 (by omega)]; unfold keyC; split <;> rfl)
  have hB2 : Below W0.heap.size W0 (W0.alloc (.cells #[.int .i64 (f : Int), .slice ob B.length cb] 178)) := (Below.refl _ W0).alloc (Nat.le_refl _) _
  have hown3 := owns_block (w' := W0.alloc (.cells #[.int .i64 (f : Int), .slice ob B.length cb] 178)) hown fun g hg => hB2.block g (owns_lt hown g hg).1
  obtain ⟨i0, hi0, hz0, hz1, hz2⟩ := info_parts way_info
  obtain ⟨v4, w4, hr4, hown4, hgr4, hbk4⟩ := app_run (P := Tryz.prog) Tryz.underlying98 hi0 hz0 hz1 hz2 rfl (by decide) (by decide) hown3 (Nat.zero_le _) (some ⟨W0.heap.size, 0, none⟩) 1 1 [.int .i64 (f : Int), .slice ob B.length cb] rfl (fun _ => ⟨W0.heap.size, 0, rfl, fun j u hu => by
    rw [Nat.zero_add, cell_of (heap_alloc_new W0 (.cells #[.int .i64 (f : Int), .slice ob B.length cb] 178)), List.getElem?_toArray]
    exact hu⟩) (fun u hu => by
    simp only [List.mem_cons, List.not_mem_nil, or_false] at hu
    rcases hu with rfl | rfl <;> rfl) (by omega) 98
  obtain ⟨o4, c4, hv4⟩ := owns_form hown4
  have hkeep : ∀ (b : Nat) (o : Obj), W0.heap[b]? = some o → (∀ cur, o ≠ .cells cur 178 (0, 0)) → w4.heap[b]? = some o := fun b o hb hne => by
    have hlt := heap_lt hb
    have e2 := hB2.block b hlt
    refine (hgr4.block b (by have := hB2.size; omega) fun e => ?_).trans (e2.trans hb)
    rcases hown3.2 with ⟨h9, -⟩ | ⟨g', cap, cur', h9, hb1, hg', rest⟩
    · rw [h9] at e; cases e
    · rw [h9] at e
      have e9 : b = g' := Option.some.inj e
      rw [← e9, e2, hb] at hg'
      exact hne _ (Option.some.inj hg')
  have hg4 := hkeep g _ hg (fun cur e => by cases e)
  have hobj4 := hkeep n _ h0.obj (fun cur e => by cases e)
  have hng : n ≠ g := fun e => by
    have h9 := h0.obj
    rw [e, hg] at h9
    cases h9
  have hstr4 : ∀ (b : Nat) (cur : Array Value), W0.heap[b]? = some (.cells cur 9 (0, 0)) → w4.heap[b]? = W0.heap[b]? := fun b cur hb => (hkeep b _ hb (fun cur e => by cases e)).trans hb.symm
  have hway4 : ∀ (j : Nat) (u : Value), j ≠ i → ws[j]? = some u → WayV w4 (waysOf G j) u := fun j u hj hu => by
    refine (h0.way j u hu).keep (fun b cur hb ho => ?_) hstr4
    have hlt := heap_lt hb
    refine (hgr4.block b (by have := hB2.size; omega) fun e => ?_).trans (hB2.block b hlt)
    exact h0.apart j i u _ b hj hu hv ho e.symm
  have hnew4 : WayV w4 (waysOf (G ++ [(i, f, B)]) i) v4 := by
    rw [waysOf_app, waysOf_one]
    refine ⟨_, by rw [List.length_append, hm]; exact hown4, fun j p hj => ?_⟩
    by_cases hjm : j < m
    · rw [List.getElem?_append_left (by rw [hm]; exact hjm)] at hj
      obtain ⟨o, c, e1, e2, e3⟩ := hws j p hj
      exact ⟨o, c, by rw [List.getElem?_append_left (by omega)]; exact e1, by rw [List.getElem?_append_left (by omega)]; exact e2, e3.keep hstr4⟩
    · have hje : j = m := by
        have := (List.getElem?_eq_some_iff.1 hj).1
        rw [List.length_append, hm, List.length_singleton] at this
        omega
      subst hje
      rw [List.getElem?_append_right (by omega), hm, Nat.sub_self] at hj
      have hp : p = (f, B) := by simpa using hj.symm
      subst hp
      refine ⟨ob, cb, ?_, ?_, hB0.keep hstr4⟩
      · rw [List.getElem?_append_right (by omega), hxl, Nat.sub_self]
        rfl
      · rw [List.getElem?_append_right (by omega), hxl, Nat.add_sub_cancel_left]
        rfl
  have hgS : ¬ KS g := h.offr g rfl
  have hlow : Keeps KS w w4 := by
    have e0 : Keeps KS w W0 := keeps_of hb0 h.kslt
    have e1 : Keeps KS W0 (W0.alloc (.cells #[.int .i64 (f : Int), .slice ob B.length cb] 178)) := keeps_of hB2 fun k hk => by have := h.kslt k hk; omega
    have e2 : Keeps KS (W0.alloc (.cells #[.int .i64 (f : Int), .slice ob B.length cb] 178)) w4 := keeps_grown hgr4 (fun k hk => by have := h.kslt k hk; have := hB2.size; omega) fun k hk => h.offw _ (List.mem_of_getElem? hv) k hk
    exact (e0.trans e1).trans e2
  have hfin : Hid (Net KP KS (w4.setCell ⟨g, i * 4 + 2, none⟩ v4) n ks (G ++ [(i, f, B)]) ∧ Keeps KS w (w4.setCell ⟨g, i * 4 + 2, none⟩ v4)) := by
    have hset : ∀ b, b ≠ g → (w4.setCell ⟨g, i * 4 + 2, none⟩ v4).heap[b]? = w4.heap[b]? := fun b hb => heap_set_other v4 hb
    have hmap : ∀ (b : Nat) (l : List (Addr × Nat)), PMap W0 b l → PMap (w4.setCell ⟨g, i * 4 + 2, none⟩ v4) b l := fun b l hb => by
      obtain ⟨es, c, g1, g2⟩ := hb
      have g3 := hkeep b _ g1 (fun cur e => by cases e)
      refine ⟨es, c, (hset b fun e => ?_).trans g3, g2⟩
      rw [e, hg] at g1
      cases g1
    have hrow4 : w4.ownsRow 0 100 4 (.slice (some ⟨g, 0, none⟩) ks.length cp) ks.length (rowN ks ws) := ⟨h0.row.1, .inr ⟨g, cp, cur, rfl, Nat.zero_le _, hg4, hnc, hcm, hcs, htk⟩⟩
    have hwayset : ∀ ps u, WayV w4 ps u → WayV (w4.setCell ⟨g, i * 4 + 2, none⟩ v4) ps u := fun ps u hu => hu.keep (fun b cur hb _ => hset b fun e => by
      rw [e, hg4] at hb
      cases hb) (fun b cur hb => hset b fun e => by
      rw [e, hg4] at hb
      cases hb)
    refine ⟨⟨l1, l2, .slice (some ⟨g, 0, none⟩) ks.length cp, me, md, ws.set i v4, ⟨(hset n hng).trans hobj4, ?_, by rw [List.length_set]; exact h.lenw, hmap me l1 h0.m1, hmap md l2 h0.m2, h.neq, h.off, h.offr, ?_, ?_, ?_, ?_, ?_, h.idx1, h.idx2, h.kk, ?_⟩⟩, hlow.trans (keeps_set w4 g _ v4 hgS)⟩
    · rw [rowN_set ks ws i v4 h.lenw hi]
      exact owns_set4 hrow4 (i * 4 + 2) v4
    · intro u hu q hq e
      rcases List.mem_or_eq_of_mem_set hu with hu | rfl
      · exact h.offw u hu q hq e
      · rcases hbk4 with e1 | e1
        · rw [e1] at hq
          exact h.offw _ (List.mem_of_getElem? hv) q hq e
        · rw [e1] at hq
          have e9 := Option.some.inj hq
          have := h.kslt q e
          have := hB2.size
          omega
    · intro b hb
      have := h.kslt b hb
      have h9 : (w4.setCell ⟨g, i * 4 + 2, none⟩ v4).heap.size = w4.heap.size := by simp
      have := hlow.size
      omega
    · intro j u hj
      rw [List.getElem?_set] at hj
      split at hj
      · rename_i e
        split at hj
        · cases hj
          rw [← e]
          exact hwayset _ _ hnew4
        · cases hj
      · rename_i hne
        rw [waysOf_app, waysOf_no i j _ hne, List.append_nil]
        exact hwayset _ _ (hway4 j u (fun e => hne e.symm) hj)
    · intro q hq
      rcases List.mem_append.1 hq with hq | hq
      · exact h.glt q hq
      · rw [List.mem_singleton] at hq
        rw [hq]
        exact hi
    · intro a b u u' q hab hu hu' hq
      rw [List.getElem?_set] at hu hu'
      have hown' : ∀ (j : Nat) (x : Value) (r : Nat), j ≠ i → ws[j]? = some x → x.ownBlock = some r → v4.ownBlock ≠ some r := fun j x r hj hx hr e => by
        rcases hbk4 with e1 | e1
        · rw [e1] at e
          exact h0.apart j i x _ r hj hx hv hr e
        · rw [e1] at e
          have h9 := (h0.way j x hx).lt r hr
          have e9 := Option.some.inj e
          have := hB2.size
          omega
      split at hu
      · rename_i e1
        split at hu
        · cases hu
          split at hu'
          · rename_i e2
            exact absurd (e1.symm.trans e2) hab
          · rename_i e2
            exact fun hh => hown' b u' q (fun e => e2 e.symm) hu' hh hq
        · cases hu
      · rename_i e1
        split at hu'
        · split at hu'
          · cases hu'
            exact hown' a u q (fun e => e1 e.symm) hu hq
          · cases hu'
        · exact h0.apart a b u u' q hab hu hu' hq
    · intro b hb
      obtain ⟨h1, c, e, h2⟩ := h.plain b hb
      exact ⟨h1, c, e, ((hlow.trans (keeps_set w4 g _ v4 hgS)).block b h1).trans h2⟩
  rw [hv4] at hr4 hfin
  have x0 := cell_of h0.obj 0
  have x4 := cell_of hobj4 0
  have b0 := cell_of hbox 0
  have b1 := cell_of hbox 1
  simp only [List.getElem?_toArray, List.getElem?_cons_succ, List.getElem?_cons_zero] at x0 x4 b0 b1
  have d4 := owns_cell hg4 htk (i * 4 + 2) (by omega) _ (by rw [rowN_get ks ws i k _ hki hv 2 (by omega)]; unfold keyC; split <;> rfl)
  have f4 := frozen_of hg4 (i * 4 + 2)
  rw [← HW0.out] at hr4 hcell x0 b0 b1
  have hcell' : V.cell? ⟨g, i * 4 + 2, none⟩ = some (.slice ov m cv) := hcell
  have x0' : V.cell? ⟨n, 0, none⟩ = some (.slice (some ⟨g, 0, none⟩) ks.length cp) := x0
  have b0' : V.cell? ⟨w.heap.size, 0, none⟩ = some (.int .i64 (f : Int)) := b0
  have b1' : V.cell? ⟨w.heap.size, 1, none⟩ = some (.slice ob B.length cb) := b1
  have hr4' : (Builtin.append_ #[98, 98] 98 #[.slice ov m cv, .slice (some ⟨V.heap.size, 0, none⟩) 1 1]).run Tryz.prog (V.alloc (.cells #[.int .i64 (f : Int), .slice ob B.length cb] 178)).drew = .ok (.slice o4 (m + 1) c4) w4 := hr4
  have HR4 := hide hr4'
  have hgV : g < V.heap.size := by rw [← HW0.out] at hg; exact heap_lt hg
  have hnV : n < V.heap.size := by have h9 := h0.obj; rw [← HW0.out] at h9; exact heap_lt h9
  have hwV : w.heap.size < V.heap.size := by rw [← HW0.out] at hbox; exact heap_lt hbox
  have hBV : Below V.heap.size V (V.alloc (.cells #[.int .i64 (f : Int), .slice ob B.length cb] 178)) := (Below.refl _ V).alloc (Nat.le_refl _) _
  have k1 := (hBV.cell (p := ⟨g, i * 4 + 2, none⟩) hgV).trans hcell'
  have k2 := (hBV.cell (p := ⟨n, 0, none⟩) hnV).trans x0'
  have k3 := (hBV.cell (p := ⟨w.heap.size, 0, none⟩) hwV).trans b0'
  have k4 := (hBV.cell (p := ⟨w.heap.size, 1, none⟩) hwV).trans b1'
  have hk2 : ks.length ≤ 9223372036854775807 := by omega
  clear hBV hr4 hr4' hcell x0 b0 b1 hbox h h0 hv hki hown hgS hg hnc hcm hcs htk hB2 hown3 hi0 hz0 hz1 hz2 hown4 hgr4 hbk4 hv4 hkeep hg4 hobj4 hng hway4 hlow hsz0 hb0 hmL HW0 hstr4 hnew4 hxl hws hm hwl hB0 hB
  go_enter Tryz.func143, Tryz.ntmps143
  go_upto_region 1 with fail
  go_region_law (refine step_append_run rfl (.tmp 18) (.tmp 20) 98 rfl (.slice ov m cv) (.slice (some ⟨V.heap.size, 0, none⟩) 1 1) (.slice o4 (m + 1) c4) w4 (by simp [Act.eval]) (by simp [Act.eval]) HR4.out ?_)
  all_goals
    go_end0
    exact ⟨rfl, hfin.out⟩
end Go.Proofs.YtlaeenfeajkcfalGreat.Fr
namespace Go.Proofs.YtlaeenfeajkcfalGreat.Fr
open Go.ChangeShapes Go.WideShapes Go.ChangeAt Go.RowKit Go.Proofs.YtlaeenfeajkcfalGreat.Nm
set_option linter.unusedVariables false

/-- The block of a slice. -/
def bNone (o : Option Addr) (b : Nat) : Prop := ∃ off, o = some ⟨b, off, none⟩
/-- Names in a block that stays. -/
def BindK (KS : Nat → Prop) (w : World) (o : Option Addr) (l : List ByteArray) : Prop := l = [] ∨ ∃ b off cur, o = some ⟨b, off, none⟩ ∧ KS b ∧ w.heap[b]? = some (.cells cur 9 (0, 0)) ∧ (∀ j s, l[j]? = some s → cur[off + j]? = some (.string s)) ∧ (∀ s ∈ l, s.size ≤ maxLen)
theorem BindK.toR {KS : Nat → Prop} {w : World} {o : Option Addr} {l : List ByteArray} (h : BindK KS w o l) : BindR w o l := by
  rcases h with h | ⟨b, off, cur, h1, -, h2, h3, h4⟩
  · exact .inl h
  · exact .inr ⟨b, off, cur, h1, h2, h3, h4⟩
theorem BindK.kept {KS KS' : Nat → Prop} {w w' : World} {o : Option Addr} {l : List ByteArray} (h : BindK KS w o l) (hk : ∀ b, KS b → KS' b) (hb : ∀ b, KS b → b < w.heap.size → w'.heap[b]? = w.heap[b]?) : BindK KS' w' o l := by
  rcases h with h | ⟨b, off, cur, h1, h9, h2, h3, h4⟩
  · exact .inl h
  · exact .inr ⟨b, off, cur, h1, hk b h9, (hb b h9 (heap_lt h2)).trans h2, h3, h4⟩
/-- In order, two alike among them perhaps. -/
def Srt (l : List ByteArray) : Prop := l.Pairwise fun a b => a.toList ≤ b.toList
/-- In order, and just these names. -/
def SameB (A B : List ByteArray) : Prop := Srt A ∧ A.length ≤ 50000000 ∧ ∀ y, y ∈ A ↔ y ∈ B
/-- What was led from a place: just to these parts, each with what binds there. -/
def LedBy (ks : List (Bool × Addr)) (f : Nat) (kd : List ((Bool × Addr) × List ByteArray)) (D : Log) : Prop := (∀ g ∈ D, ∃ k ∈ kd, ks[g.1]? = some k.1 ∧ g.2.1 = f ∧ SameB g.2.2 k.2) ∧ (∀ k ∈ kd, ∃ g ∈ D, ks[g.1]? = some k.1 ∧ g.2.1 = f ∧ SameB g.2.2 k.2)
theorem LedBy.nil (ks : List (Bool × Addr)) (f : Nat) : LedBy ks f [] [] := ⟨fun g hg => (by cases hg), fun g hg => (by cases hg)⟩
theorem LedBy.more {ks new : List (Bool × Addr)} {f : Nat} {kd : List ((Bool × Addr) × List ByteArray)} {D : Log} (h : LedBy ks f kd D) : LedBy (ks ++ new) f kd D := by
  have e : ∀ (i : Nat) (k : Bool × Addr), ks[i]? = some k → (ks ++ new)[i]? = some k := fun i k hk => by rw [List.getElem?_append_left (List.getElem?_eq_some_iff.1 hk).1]; exact hk
  refine ⟨fun g hg => ?_, fun k hk => ?_⟩
  · obtain ⟨k, h1, h2, h3⟩ := h.1 g hg
    exact ⟨k, h1, e _ _ h2, h3⟩
  · obtain ⟨g, h1, h2, h3⟩ := h.2 k hk
    exact ⟨g, h1, e _ _ h2, h3⟩
theorem LedBy.app {ks : List (Bool × Addr)} {f : Nat} {kd kd' : List ((Bool × Addr) × List ByteArray)} {D D' : Log} (h : LedBy ks f kd D) (h' : LedBy ks f kd' D') : LedBy ks f (kd ++ kd') (D ++ D') := by
  refine ⟨fun g hg => ?_, fun k hk => ?_⟩
  · rcases List.mem_append.1 hg with hg | hg
    · obtain ⟨k, h1, h2⟩ := h.1 g hg
      exact ⟨k, List.mem_append_left _ h1, h2⟩
    · obtain ⟨k, h1, h2⟩ := h'.1 g hg
      exact ⟨k, List.mem_append_right _ h1, h2⟩
  · rcases List.mem_append.1 hk with hk | hk
    · obtain ⟨g, h1, h2⟩ := h.2 k hk
      exact ⟨g, List.mem_append_left _ h1, h2⟩
    · obtain ⟨g, h1, h2⟩ := h'.2 k hk
      exact ⟨g, List.mem_append_right _ h1, h2⟩
theorem LedBy.one {ks : List (Bool × Addr)} {f i : Nat} {k : Bool × Addr} {A B : List ByteArray} (hi : ks[i]? = some k) (hs : SameB A B) : LedBy ks f [(k, B)] [(i, f, A)] := by
  refine ⟨fun g hg => ?_, fun q hq => ?_⟩
  · rw [List.mem_singleton] at hg
    rw [hg]
    exact ⟨_, List.mem_singleton.2 rfl, hi, rfl, hs⟩
  · rw [List.mem_singleton] at hq
    rw [hq]
    exact ⟨_, List.mem_singleton.2 rfl, hi, rfl, hs⟩
def bOf (o : Option Addr) : Nat := (o.getD ⟨0, 0, none⟩).block
def fOf (o : Option Addr) : Nat := (o.getD ⟨0, 0, none⟩).off
def rowA (o : Option Addr) (sz d n : Nat) : List Addr := (List.range n).map fun i => ⟨bOf o, fOf o + i * sz + d, none⟩
theorem rowA_succ (o : Option Addr) (sz d n : Nat) : rowA o sz d (n + 1) = rowA o sz d n ++ [⟨bOf o, fOf o + n * sz + d, none⟩] := by simp [rowA, List.range_succ]
theorem keeps_drw (K : Nat → Prop) (w : World) : Keeps K w w.drew := ⟨rfl, rfl, rfl, Nat.le_refl _, fun _ _ => rfl⟩
set_option maxHeartbeats 2000000 in
set_option maxRecDepth 100000 in
theorem leadToExp_any {KP KS : Nat → Prop} {w : World} {n : Nat} {ks : List (Bool × Addr)} {G : Log} (h : Net KP KS w n ks G) (hL : G.length ≤ 40000000) (hk : ks.length ≤ 40000000) (a : Addr) (ha : KP a.block) (f : Nat) (ob : Option Addr) (B : List ByteArray) (cb : Nat) (hB : BindK KS w ob B) :
    Calls Tryz.prog 125 #[.pointer (some ⟨n, 0, none⟩), .pointer (some a), .agg #[.int .i64 (f : Int), .slice ob B.length cb]] w fun e w' => ∃ new i, e = .returned (.tuple #[]) ∧ Net KP KS w' n (ks ++ new) (G ++ [(i, f, B)]) ∧ (new = [] ∨ new = [(true, a)]) ∧ (ks ++ new)[i]? = some (true, a) ∧ Keeps KS w w' := by
  obtain ⟨V, hV⟩ : ∃ V, w.alloc (.cells #[.int .i64 (f : Int), .slice ob B.length cb] 178) = V := ⟨_, rfl⟩
  have hb0 : Below w.heap.size w V := by rw [← hV]; exact (Below.refl _ w).alloc (Nat.le_refl _) _
  have hsV : V.heap.size = w.heap.size + 1 := by rw [← hV]; simp
  have hbox : V.heap[w.heap.size]? = some (.cells #[.int .i64 (f : Int), .slice ob B.length cb] 178 (0, 0)) := by rw [← hV]; exact heap_alloc_new w _
  have hkslt : ∀ b, KS b → b < w.heap.size := by obtain ⟨_, _, _, _, _, _, h9⟩ := h; exact h9.kslt
  have hkpks : ∀ b, KP b → KS b := by obtain ⟨_, _, _, _, _, _, h9⟩ := h; exact fun b hb => (h9.plain b hb).1
  have hm := (h.more hb0).later (Below.refl _ V).drew
  have HP1 := hide (placeOfExp_any hm (by omega) a ha)
  have HBOX := hide hbox
  have HK0 : Hid (Keeps KS w V) := keeps_of hb0 hkslt
  have b0 := cell_of hbox 0
  have b1 := cell_of hbox 1
  simp only [List.getElem?_toArray, List.getElem?_cons_succ, List.getElem?_cons_zero] at b0 b1
  have HKP := hide hkpks
  have HBV : Hid (BindK (fun k => KS k ∨ (w.heap.size ≤ k ∧ k < V.heap.size)) V.drew ob B) := hB.kept (fun b hb => .inl hb) (fun b hb hl => hb0.block b hl)
  have HLE : Hid (∀ new, (new = [] ∨ new = [(true, a)]) → (ks ++ new).length ≤ 50000000) := fun new hn => by
    show (ks ++ new).length ≤ 50000000
    rcases hn with rfl | rfl
    · simp; omega
    · simp; omega
  clear h hm hbox hb0 hkslt hkpks hB
  go_enter Tryz.func125, Tryz.ntmps125
  go_upto_region 1 with fail
  go_region_with (first
    | (go_at_call 144; (with_reducible refine Calls.mono HP1.out ?_); rintro e w1 ⟨i, new, rfl, hN1, hnew, hidx, hkp⟩; have hbk := (hkp.block w.heap.size (.inr ⟨Nat.le_refl _, by omega⟩)).trans HBOX.out; have d0 := cell_of hbk 0; have d1 := cell_of hbk 1; simp only [List.getElem?_toArray, List.getElem?_cons_succ, List.getElem?_cons_zero] at d0 d1; have HL1 := hide (lead_any hN1 (by omega) i (List.getElem?_eq_some_iff.1 hidx).1 (HLE.out new hnew) f ob B cb (HBV.out.kept (fun _ h => h) (fun b hb _ => hkp.block b hb)).toR); have HNEW := hide hnew; have HIDX := hide hidx; have HKP1 := hide hkp; clear hN1 hnew hidx hkp hbk)
    | (go_at_call 143; (with_reducible refine Calls.mono HL1.out ?_); rintro e w2 ⟨rfl, hN2, hkp2⟩; have HN2 := hide hN2; have HKP2 := hide hkp2; clear hN2 hkp2))
  all_goals
    go_end0
    refine ⟨new, i, rfl, HN2.out.less (fun b hb => .inl hb) HKP.out, HNEW.out, HIDX.out, ?_⟩
    exact (HK0.out.trans (keeps_drw _ V)).trans ((HKP1.out.trans HKP2.out).mono fun b hb => .inl hb)
set_option maxHeartbeats 2000000 in
set_option maxRecDepth 100000 in
theorem leadToDecs_any {K KP KS : Nat → Prop} {R : Tr → List Value → Prop} {w : World} {n : Nat} {ks : List (Bool × Addr)} {G : Log} (h : Net KP KS w n ks G) (xs : List Tr) (o : Option Addr) (c : Nat) (hx : RowOf K w R 9 o xs) (hL : G.length + xs.length ≤ 40000000) (hk : ks.length + xs.length ≤ 40000000) (hK : ∀ b, K b → KP b) (f : Nat) (ob : Option Addr) (B B' : List ByteArray) (cb : Nat) (hB : BindK KS w ob B) (hS : SameB B B') :
    Calls Tryz.prog 126 #[.pointer (some ⟨n, 0, none⟩), .slice o xs.length c, .agg #[.int .i64 (f : Int), .slice ob B.length cb]] w fun e w' => ∃ new D, e = .returned (.tuple #[]) ∧ Net KP KS w' n (ks ++ new) (G ++ D) ∧ D.length = xs.length ∧ LedBy (ks ++ new) f ((rowA o 9 0 xs.length).map fun a => ((false, a), B')) D ∧ new.Sublist ((rowA o 9 0 xs.length).map fun a => (false, a)) ∧ (∀ a ∈ rowA o 9 0 xs.length, (false, a) ∈ ks ++ new) ∧ Keeps KS w w' := by
  obtain ⟨V, hV⟩ : ∃ V, w.alloc (.cells #[.int .i64 (f : Int), .slice ob B.length cb] 178) = V := ⟨_, rfl⟩
  have hb0 : Below w.heap.size w V := by rw [← hV]; exact (Below.refl _ w).alloc (Nat.le_refl _) _
  have hsV : V.heap.size = w.heap.size + 1 := by rw [← hV]; simp
  have hbox : V.heap[w.heap.size]? = some (.cells #[.int .i64 (f : Int), .slice ob B.length cb] 178 (0, 0)) := by rw [← hV]; exact heap_alloc_new w _
  have hkslt : ∀ b, KS b → b < w.heap.size := by obtain ⟨_, _, _, _, _, _, h9⟩ := h; exact h9.kslt
  have hkpks : ∀ b, KP b → KS b := by obtain ⟨_, _, _, _, _, _, h9⟩ := h; exact fun b hb => (h9.plain b hb).1
  have HM := hide (h.more hb0)
  have HBOX := hide hbox
  have HK0 : Hid (Keeps KS w V) := keeps_of hb0 hkslt
  have HKP := hide hkpks
  have HX := hide hx
  have HKK := hide hK
  have HSB := hide hS
  have HBV : Hid (BindK (fun k => KS k ∨ (w.heap.size ≤ k ∧ k < V.heap.size)) V ob B) := hB.kept (fun b hb => .inl hb) (fun b hb hl => hb0.block b hl)
  clear h hbox hb0 hkslt hkpks hx hK hB hS
  go_enter Tryz.func126, Tryz.ntmps126
  go_wp2
  go_loopw [9] (fun t9 wr => ∃ (i : Nat) (new : List (Bool × Addr)) (D : Log), i ≤ xs.length ∧ t9 = .int .i64 i ∧ Net KP (fun k => KS k ∨ (w.heap.size ≤ k ∧ k < V.heap.size)) wr n (ks ++ new) (G ++ D) ∧ D.length = i ∧ LedBy (ks ++ new) f ((rowA o 9 0 i).map fun a => ((false, a), B')) D ∧ new.Sublist ((rowA o 9 0 i).map fun a => (false, a)) ∧ (∀ a ∈ rowA o 9 0 i, (false, a) ∈ ks ++ new) ∧ Keeps (fun k => KS k ∨ (w.heap.size ≤ k ∧ k < V.heap.size)) V wr) (fun t9 _ => xs.length - (intOf t9).toNat)
  case atStart => exact ⟨0, [], [], Nat.zero_le _, rfl, by rw [List.append_nil, List.append_nil]; exact HM.out, rfl, LedBy.nil _ _, by simp, fun a ha => by simp [rowA] at ha, Keeps.refl _ _⟩
  case round =>
    obtain ⟨i, new, D, hi, rfl, hN, hDl, hled, hsub, hmem, hkp⟩ := hrel
    have HLED := hide hled
    clear hled
    have HN := hide hN
    have HSUB := hide hsub
    have HMEM := hide hmem
    have HKR := hide hkp
    by_cases hlt : i < xs.length
    · have hne : xs ≠ [] := by intro e; rw [e] at hlt; simp at hlt
      obtain ⟨b, off, rfl, kb, hbl, -⟩ := HX.out hne
      have hbk := (hkp.block w.heap.size (.inr ⟨Nat.le_refl _, by omega⟩)).trans HBOX.out
      have c0 := cell_of hbk 0
      have c1 := cell_of hbk 1
      simp only [List.getElem?_toArray, List.getElem?_cons_succ, List.getElem?_cons_zero] at c0 c1
      have hnl : new.length ≤ i := by
        have := hsub.length_le
        simpa [rowA] using this
      have HP1 := hide (placeOfDec_any (hN.later (Below.refl _ wr).drew) (by rw [List.length_append]; omega) ⟨b, off + i * 9, none⟩ (HKK.out b kb))
      have HBK := hide hbk
      clear hN hsub hmem hkp hbk hne
      go_upto_region 4 with fail
      go_region_with (first
        | (go_at_call 73; (with_reducible refine Calls.mono HP1.out ?_); rintro e w1 ⟨j, nw, rfl, hN1, hnew, hidx, hkp⟩; have hbk := (hkp.block w.heap.size (.inr ⟨Nat.le_refl _, by omega⟩)).trans HBK.out; have d0 := cell_of hbk 0; have d1 := cell_of hbk 1; simp only [List.getElem?_toArray, List.getElem?_cons_succ, List.getElem?_cons_zero] at d0 d1; have hjl := (List.getElem?_eq_some_iff.1 hidx).1; have hkl : (ks ++ new ++ nw).length ≤ 50000000 := (by rcases hnew with rfl | rfl <;> simp <;> omega); have HL1 := hide (lead_any hN1 (by rw [List.length_append]; omega) j hjl hkl f ob B cb ((HBV.out.kept (fun _ h => h) (fun b hb _ => HKR.out.block b hb)).kept (fun _ h => h) (fun b hb _ => hkp.block b hb)).toR); have HNEW := hide hnew; have HIDX := hide hidx; have HKP1 := hide hkp; clear hN1 hnew hidx hkp hbk hkl hjl)
        | (go_at_call 143; (with_reducible refine Calls.mono HL1.out ?_); rintro e w2 ⟨rfl, hN2, hkp2⟩; have HN2 := hide hN2; have HKP2 := hide hkp2; clear hN2 hkp2))
      all_goals
        go_wp2
        go_roundw
        case rel =>
          have e0 : off + i * 9 + 0 = off + i * 9 := rfl
          refine ⟨i + 1, new ++ nw, D ++ [(j, f, B)], by omega, by go_num, ?_, by rw [List.length_append, hDl]; rfl, ?_, ?_, fun a ha => ?_, ?_⟩
          · have h9 := HN2.out
            rw [List.append_assoc, List.append_assoc] at h9
            exact h9
          · rw [rowA_succ, List.map_append, ← List.append_assoc]
            exact (HLED.out.more (new := nw)).app (LedBy.one HIDX.out HSB.out)
          · rw [rowA_succ, List.map_append]
            refine HSUB.out.append ?_
            rcases HNEW.out with h9 | h9
            · rw [h9]; exact List.nil_sublist _
            · rw [h9]; exact List.Sublist.refl _
          · rw [rowA_succ] at ha
            rw [← List.append_assoc]
            rcases List.mem_append.1 ha with ha | ha
            · exact List.mem_append_left _ (HMEM.out a ha)
            · rw [List.mem_singleton] at ha
              rw [ha]
              exact List.mem_of_getElem? HIDX.out
          · exact (HKR.out.trans (keeps_drw _ wr)).trans (HKP1.out.trans HKP2.out)
        case measure => simp [intOf]; omega
    · have hie : i = xs.length := by omega
      subst hie
      clear hN hsub hmem hkp
      go_wp2
      go_end0
      refine ⟨new, D, rfl, HN.out.less (fun b hb => .inl hb) HKP.out, hDl, HLED.out, HSUB.out, HMEM.out, HK0.out.trans (HKR.out.mono fun b hb => .inl hb)⟩
end Go.Proofs.YtlaeenfeajkcfalGreat.Fr
namespace Go.Proofs.YtlaeenfeajkcfalGreat.Fr
open Go.ChangeShapes Go.WideShapes Go.ChangeAt Go.RowKit Go.Sort Go.Proofs.YtlaeenfeajkcfalGreat.Nm
set_option linter.unusedVariables false

def ofB (x : List UInt8) : ByteArray := ⟨x.toArray⟩
theorem ofB_list (x : List UInt8) : (ofB x).toList = x := by unfold ofB; simp
theorem list_ofB (s : ByteArray) : ofB s.toList = s := toList_inj (ofB_list _)
theorem srt_merge (ss : List (List UInt8)) : Srt ((ss.mergeSort (fun x y => decide (x ≤ y))).map ofB) := by
  have tr : ∀ a b c : List UInt8, decide (a ≤ b) = true → decide (b ≤ c) = true → decide (a ≤ c) = true := fun a b c h1 h2 => by
    simp only [decide_eq_true_eq] at *
    exact List.le_trans h1 h2
  have tot : ∀ a b : List UInt8, (decide (a ≤ b) || decide (b ≤ a)) = true := fun a b => by
    simp only [Bool.or_eq_true, decide_eq_true_eq]
    exact List.le_total a b
  refine List.pairwise_map.2 ((List.pairwise_mergeSort tr tot ss).imp fun {a b} hab => ?_)
  rw [ofB_list, ofB_list]
  simpa using hab
set_option maxHeartbeats 1000000 in
theorem sortS_any {B : Nat} {w : World} {v : Value} {l : List ByteArray} (h : NRow B w v l) (hB : B ≤ w.heap.size) (hl : l.length ≤ 100000000) : Calls Tryz.prog 140 #[v] w fun e w' => e = .returned (.tuple #[]) ∧ ∃ l', NRow B w' v l' ∧ Srt l' ∧ (∀ y, y ∈ l' ↔ y ∈ l) ∧ l'.length = l.length ∧ Below B w w' := by
  have h0 := h
  obtain ⟨⟨h1, hc⟩, hs, hm⟩ := h
  rcases hc with ⟨rfl, hn0⟩ | ⟨g, cap, cur, rfl, hb, hg, hn, hcap, hsz, htk⟩
  · have hnil : l = [] := List.length_eq_zero_iff.1 hn0
    subst hnil
    refine (AnyM.slices_Sort_string_none Tryz.sort140 none 0 w).mono ?_
    rintro e w' ⟨rfl, rfl⟩
    exact ⟨rfl, [], h0, List.Pairwise.nil, fun _ => Iff.rfl, rfl, Below.refl _ _⟩
  · have hH := holds_of_block (ss := l.map ByteArray.toList) hg (by rw [List.length_map, enc_map, ← htk, Nat.mul_one])
    have key := AnyM.slices_Sort_string Tryz.sort140 g 0 cap (l.map ByteArray.toList) w hH (heap_lt hg) (by rw [List.length_map]; omega)
    have hms := List.mergeSort_perm (l.map ByteArray.toList) (fun x y => decide (x ≤ y))
    have hlen : ((l.map ByteArray.toList).mergeSort (fun x y => decide (x ≤ y))).length = (l.map ByteArray.toList).length := hms.length_eq
    rw [List.length_map] at key
    refine Calls.mono key ?_
    rintro e w' ⟨rfl, n, os, rfl⟩
    have hmem : ∀ y, y ∈ ((l.map ByteArray.toList).mergeSort (fun x y => decide (x ≤ y))).map ofB ↔ y ∈ l := fun y => by
      rw [List.mem_map]
      constructor
      · rintro ⟨x, hx, rfl⟩
        obtain ⟨z, hz, rfl⟩ := List.mem_map.1 (hms.mem_iff.1 hx)
        rw [list_ofB]
        exact hz
      · intro hy
        exact ⟨y.toList, hms.mem_iff.2 (List.mem_map_of_mem hy), list_ofB y⟩
    have hown := ownsRow_sorted (n := n) (os := os) (base := B) (ss := l.map ByteArray.toList) hlen hb hg (by rw [List.length_map]; exact hn) hcap hsz
    refine ⟨rfl, ((l.map ByteArray.toList).mergeSort (fun x y => decide (x ≤ y))).map ofB, ⟨?_, fun s hs' => hs s ((hmem s).1 hs'), ?_⟩, srt_merge _, hmem, ?_, below_grown (grownBy_sorted _) hB fun k hk => by cases hk; exact hb⟩
    · rw [List.length_map, hlen, List.map_map]
      have e : (Value.string ∘ ofB) = encStr := rfl
      rw [e]
      rw [List.length_map] at hown ⊢
      exact hown
    · rw [List.length_map, hlen, List.length_map]
      exact hm
    · rw [List.length_map, hlen, List.length_map]
set_option maxHeartbeats 1000000 in
set_option maxRecDepth 100000 in
theorem concatS_any (ls : List (List ByteArray)) (o : Option Addr) (c : Nat) (w : World) (h : RowOf (fun _ => True) w (slR w) 1 o ls) (hl : ls.length ≤ 100) (hs : (ls.map List.length).sum ≤ 50000000) :
    Calls Tryz.prog 142 #[.slice o ls.length c] w fun e w' => ∃ v l, e = .returned v ∧ NRow w.heap.size w' v l ∧ l.length ≤ 50000000 ∧ l = ls.flatten ∧ Below w.heap.size w w' := by
  have H := hide h
  clear h
  go_enter Tryz.func142, Tryz.ntmps142
  go_wp2
  go_loop [3, 11] (fun t3 t11 => ∃ i : Nat, i ≤ ls.length ∧ t11 = .int .i64 i ∧ t3 = .int .i64 (((ls.take i).map List.length).sum : Nat)) (fun _ t11 => ls.length - (intOf t11).toNat)
  case atStart => exact ⟨0, Nat.zero_le _, rfl, rfl⟩
  case round =>
    obtain ⟨i, hi, rfl, rfl⟩ := hrel
    have hle := sum_le ls i
    by_cases hlt : i < ls.length
    · have hne : ls ≠ [] := by intro e; rw [e] at hlt; simp at hlt
      obtain ⟨b, off, eo, -, -, hcs⟩ := H.out hne
      subst eo
      obtain ⟨_, -, hkey, o1, c1, rfl, hml, -⟩ := hcs i _ (List.getElem?_eq_getElem hlt)
      have q0 := hkey 0 _ rfl
      rw [Nat.mul_one, Nat.add_zero] at q0
      have hsum := sum_succ ls i hlt
      have hle2 := sum_le ls (i + 1)
      generalize hn : ls[i].length = n at q0 hsum hml
      generalize hS : ((ls.take i).map List.length).sum = S at hsum hle ⊢
      generalize hS2 : ((ls.take (i + 1)).map List.length).sum = S2 at hsum hle2
      have HS2 := hide hS2
      have hng : ¬ ((S : Int) + (n : Int) < 0) := by omega
      clear hcs hne hkey hS hS2 hn
      go_wp2
      go_round
      case rel => exact ⟨i + 1, by omega, by go_num, by rw [HS2.out]; go_num⟩
      case measure => simp [intOf]; omega
    · have hie : i = ls.length := by omega
      subst hie
      rw [List.take_length] at hle ⊢
      generalize hS : (ls.map List.length).sum = S at hs hle ⊢
      have HS := hide hS
      clear hS
      go_wp2_with fail
      refine (grow_any S w (by omega)).mono ?_
      rintro e w1 ⟨v1, rfl, hn1, hb1⟩
      have HN1 := hide hn1
      have HB1 := hide hb1
      clear hn1 hb1
      go_wp2
      go_loopw [6, 27] (fun t6 t27 wr => ∃ (i : Nat) (l : List ByteArray), i ≤ ls.length ∧ t27 = .int .i64 i ∧ NRow w.heap.size wr t6 l ∧ l.length = ((ls.take i).map List.length).sum ∧ l = (ls.take i).flatten ∧ Below w.heap.size w wr) (fun _ t27 _ => ls.length - (intOf t27).toNat)
      case atStart => exact ⟨0, [], Nat.zero_le _, rfl, HN1.out, rfl, rfl, HB1.out⟩
      case round =>
        obtain ⟨i, l, hi, rfl, hn, hlen, hfl, hb⟩ := hrel
        have HFL := hide hfl
        clear hfl
        have hle3 := sum_le ls i
        rw [HS.out] at hle3
        by_cases hlt : i < ls.length
        · have hne : ls ≠ [] := by intro e; rw [e] at hlt; simp at hlt
          obtain ⟨b, off, eo, -, hblt, hcs⟩ := H.out hne
          subst eo
          obtain ⟨_, -, hkey, o1, c1, rfl, hml, hrow⟩ := hcs i _ (List.getElem?_eq_getElem hlt)
          have q0 := hkey 0 _ rfl
          rw [Nat.mul_one, Nat.add_zero] at q0
          have q1 := (hb.cell (p := ⟨b, _, none⟩) hblt).trans q0
          have hsum := sum_succ ls i hlt
          have hle2 := sum_le ls (i + 1)
          rw [HS.out] at hle2
          obtain ⟨v2, w2, hr2, hn2, hg2, -⟩ := hn.app hb.size c1 (hrow.later hb fun _ _ h => h) (by omega) 38
          have HR2 := hide hr2
          have HN2 := hide hn2
          have HL2 : Hid ((l ++ ls[i]).length = ((ls.take (i + 1)).map List.length).sum) := by
            show (l ++ ls[i]).length = _
            rw [List.length_append, hsum, hlen]
          have HF2 : Hid (l ++ ls[i] = (ls.take (i + 1)).flatten) := by
            show l ++ ls[i] = _
            rw [HFL.out, List.take_succ_eq_append_getElem hlt, List.flatten_append]
            simp
          have HB2 : Hid (Below w.heap.size w w2) := hb.trans (below_grown hg2 hb.size fun k hk => (hn.lt k hk).2)
          clear hn hlen hb hcs hne hkey hrow hr2 hn2 hg2 q0 hsum hle2 hle3
          go_wp2_with (at_builtin; refine Lib.wpList_append_run _ rfl _ _ _ _ rfl _ _ rfl rfl _ _ HR2.out ?_)
          go_roundw
          case rel => exact ⟨i + 1, _, by omega, by go_num, HN2.out, HL2.out, HF2.out, HB2.out⟩
          case measure => simp [intOf]; omega
        · have HN := hide hn
          have HB := hide hb
          clear hn hb
          go_wp2
          go_ret
          refine ⟨_, l, rfl, HN.out, by omega, ?_, HB.out⟩
          rw [HFL.out, List.take_of_length_le (by omega)]
set_option maxHeartbeats 1000000 in
set_option maxRecDepth 100000 in
theorem sortedS_any (ls : List (List ByteArray)) (o : Option Addr) (c : Nat) (w : World) (h : RowOf (fun _ => True) w (slR w) 1 o ls) (hl : ls.length ≤ 100) (hs : (ls.map List.length).sum ≤ 50000000) :
    Calls Tryz.prog 124 #[.slice o ls.length c] w fun e w' => ∃ v l, e = .returned v ∧ NRow w.heap.size w' v l ∧ Srt l ∧ (∀ y, y ∈ l ↔ y ∈ ls.flatten) ∧ l.length ≤ 50000000 ∧ Below w.heap.size w w' := by
  have H := hide h
  clear h
  go_enter Tryz.func124, Tryz.ntmps124
  go_wp2_with fail
  refine (concatS_any ls o c w H.out hl hs).mono ?_
  rintro e w1 ⟨v, l, rfl, hn, hlen, hfl, hb⟩
  have HFL := hide hfl
  clear hfl
  obtain ⟨o1, c1, rfl, -, -⟩ := hn.rowOf
  have HN := hide hn
  have HB := hide hb
  clear hn hb
  go_wp2_with fail
  refine (sortS_any HN.out HB.out.size (by omega)).mono ?_
  rintro e w2 ⟨rfl, l2, hn2, hs2, hm2, hl2, hb⟩
  have HN2 := hide hn2
  have HS2 := hide hs2
  have HM2 := hide hm2
  clear hn2 hs2 hm2
  have HB2 := hide (HB.out.trans hb)
  clear hb
  go_wp2
  go_ret
  exact ⟨_, l2, rfl, HN2.out, HS2.out, fun y => by rw [HM2.out, HFL.out], by omega, HB2.out⟩
set_option maxHeartbeats 1000000 in
set_option maxRecDepth 100000 in
theorem namesOfDecsS_any {K : Nat → Prop} {h : Nat} (xs : List Tr) (o : Option Addr) (c : Nat) (w : World) (hx : RowOf K w (reads K w h).de 9 o xs) (hl : xs.length ≤ 10000000) :
    Calls Tryz.prog 37 #[.slice o xs.length c] w fun e w' => ∃ v, e = .returned v ∧ NRow w.heap.size w' v (xs.map Tr.s) ∧ Below w.heap.size w w' := by
  have H := hide hx
  have HB0 : Hid (Below w.heap.size w (w.alloc (.cells #[] 9))) := (Below.refl _ w).alloc (Nat.le_refl _) _
  have HN0 := hide (NRow.empty w)
  clear hx
  go_enter Tryz.func37, Tryz.ntmps37
  go_wp2
  go_loopw [3, 9] (fun t3 t9 wr => ∃ (i : Nat) (l : List ByteArray), i ≤ xs.length ∧ t9 = .int .i64 i ∧ NRow w.heap.size wr t3 l ∧ l.length = i ∧ l = (xs.take i).map Tr.s ∧ Below w.heap.size w wr) (fun _ t9 _ => xs.length - (intOf t9).toNat)
  case atStart => exact ⟨0, [], Nat.zero_le _, rfl, HN0.out, rfl, rfl, HB0.out⟩
  case round =>
    obtain ⟨i, l, hi, rfl, hn, hlen, hfl, hb⟩ := hrel
    have HFL := hide hfl
    clear hfl
    by_cases hlt : i < xs.length
    · have hne : xs ≠ [] := by intro e; rw [e] at hlt; simp at hlt
      obtain ⟨b, off, eo, -, hblt, hcs⟩ := H.out hne
      subst eo
      obtain ⟨cs, hcl, hkey, hr⟩ := hcs i _ (List.getElem?_eq_getElem hlt)
      generalize hxd : xs[i] = d at hr
      have HF2 : Hid (l ++ [d.s] = (xs.take (i + 1)).map Tr.s) := by
        show l ++ [d.s] = _
        rw [HFL.out, List.take_succ_eq_append_getElem hlt, List.map_append, hxd]
        rfl
      clear hxd
      have hsz : d.s.size ≤ maxLen := de_size hr
      obtain ⟨y, p0, e0, p1, e1, p2, e2, p3, e3, p4, e4, rfl⟩ := de_form hr
      have p : ∀ j u, [.string d.s, .slice p0 d.ss.length e0, .int .i64 y.k, .string y.s, .int .i64 y.n, .slice p1 y.l.length e1, .slice p2 y.ds.length e2, .slice p3 y.al.length e3, .slice p4 d.ds.length e4][j]? = some u → wr.cell? ⟨b, off + i * 9 + j, none⟩ = some u := fun j u hu => (hb.cell (p := ⟨b, _, none⟩) hblt).trans (hkey j u hu)
      have q0 := p 0 _ rfl
      have q1 := p 1 _ rfl
      have q2 := p 2 _ rfl
      have q3 := p 3 _ rfl
      have q4 := p 4 _ rfl
      have q5 := p 5 _ rfl
      have q6 := p 6 _ rfl
      have q7 := p 7 _ rfl
      have q8 := p 8 _ rfl
      rw [Nat.add_zero] at q0
      have hB1 : Below wr.heap.size wr ((wr.alloc (.cells #[.string d.s, .slice p0 d.ss.length e0, .int .i64 y.k, .string y.s, .int .i64 y.n, .slice p1 y.l.length e1, .slice p2 y.ds.length e2, .slice p3 y.al.length e3, .slice p4 d.ds.length e4] 77)).alloc (.cells #[.string d.s] 9)) := ((Below.refl _ wr).alloc (Nat.le_refl _) _).alloc (by simp) _
      obtain ⟨v2, w2, hr2, hn2, hg2, -⟩ := (hn.later hB1).app (Nat.le_trans hb.size hB1.size) 1 (one_row (heap_alloc_new (wr.alloc (.cells #[.string d.s, .slice p0 d.ss.length e0, .int .i64 y.k, .string y.s, .int .i64 y.n, .slice p1 y.l.length e1, .slice p2 y.ds.length e2, .slice p3 y.al.length e3, .slice p4 d.ds.length e4] 77)) (.cells #[.string d.s] 9)) hsz) (by simp only [List.length_singleton]; omega) 38
      rw [List.length_singleton, show (wr.alloc (.cells #[.string d.s, .slice p0 d.ss.length e0, .int .i64 y.k, .string y.s, .int .i64 y.n, .slice p1 y.l.length e1, .slice p2 y.ds.length e2, .slice p3 y.al.length e3, .slice p4 d.ds.length e4] 77)).heap.size = wr.heap.size + 1 by simp] at hr2
      have HR2 := hide hr2
      have HN2 := hide hn2
      have HB2 : Hid (Below w.heap.size w w2) := hb.trans ((hB1.mono hb.size).trans (below_grown hg2 (Nat.le_trans hb.size hB1.size) fun k hk => ((hn.later hB1).lt k hk).2))
      have hlen2 : (l ++ [d.s]).length = i + 1 := by rw [List.length_append, hlen]; rfl
      have HL2 := hide hlen2
      clear hn hlen hb hcs hne hkey hr2 hn2 hg2 hB1 p hr hsz hlen2 hcl
      go_wp2_with (at_builtin; refine Lib.wpList_append_run _ rfl _ _ _ _ rfl _ _ rfl rfl _ _ HR2.out ?_)
      go_roundw
      case rel => exact ⟨i + 1, _, by omega, by go_num, HN2.out, HL2.out, HF2.out, HB2.out⟩
      case measure => simp [intOf]; omega
    · have HN := hide hn
      have HB := hide hb
      clear hn hb
      go_wp2
      go_ret
      refine ⟨_, rfl, ?_, HB.out⟩
      have h9 := HN.out
      rw [HFL.out, List.take_of_length_le (by omega)] at h9
      exact h9
end Go.Proofs.YtlaeenfeajkcfalGreat.Fr
namespace Go.Proofs.YtlaeenfeajkcfalGreat.Fr
open Go.ChangeShapes Go.WideShapes Go.ChangeAt Go.RowKit Go.Proofs.YtlaeenfeajkcfalGreat.Nm
set_option linter.unusedVariables false

theorem two_rows {W : World} {b : Nat} {o1 o2 : Option Addr} {c1 c2 : Nat} {l1 l2 : List ByteArray} {e : TypeId} {fz : Nat × Nat} (hg : W.heap[b]? = some (.cells #[.slice o1 l1.length c1, .slice o2 l2.length c2] e fz)) (m1 : l1.length ≤ maxLen) (m2 : l2.length ≤ maxLen) (r1 : RowOf (fun _ => True) W strR 1 o1 l1) (r2 : RowOf (fun _ => True) W strR 1 o2 l2) : RowOf (fun _ => True) W (slR W) 1 (some ⟨b, 0, none⟩) [l1, l2] := by
  intro _
  refine ⟨b, 0, rfl, trivial, heap_lt hg, fun i x hx => ?_⟩
  have one : ∀ (i : Nat) (u : Value), #[Value.slice o1 l1.length c1, .slice o2 l2.length c2][i]? = some u → ∀ j v, [u][j]? = some v → W.cell? ⟨b, 0 + i * 1 + j, none⟩ = some v := fun i u hu j v hv => by
    have hj : j = 0 := by
      have := (List.getElem?_eq_some_iff.1 hv).1
      simpa using this
    subst hj
    have : u = v := by simpa using hv
    subst this
    rw [show 0 + i * 1 + 0 = i by omega, cell_of hg]
    exact hu
  match i, hx with
  | 0, hx =>
    have : l1 = x := by simpa using hx
    subst this
    exact ⟨[.slice o1 l1.length c1], rfl, one 0 _ rfl, o1, c1, rfl, m1, r1⟩
  | 1, hx =>
    have : l2 = x := by simpa using hx
    subst this
    exact ⟨[.slice o2 l2.length c2], rfl, one 1 _ rfl, o2, c2, rfl, m2, r2⟩
  | i + 2, hx => simp at hx
theorem one_rows {W : World} {b : Nat} {o1 : Option Addr} {c1 : Nat} {l1 : List ByteArray} {e : TypeId} {fz : Nat × Nat} (hg : W.heap[b]? = some (.cells #[.slice o1 l1.length c1] e fz)) (m1 : l1.length ≤ maxLen) (r1 : RowOf (fun _ => True) W strR 1 o1 l1) : RowOf (fun _ => True) W (slR W) 1 (some ⟨b, 0, none⟩) [l1] := by
  intro _
  refine ⟨b, 0, rfl, trivial, heap_lt hg, fun i x hx => ?_⟩
  match i, hx with
  | 0, hx =>
    have : l1 = x := by simpa using hx
    subst this
    refine ⟨[.slice o1 l1.length c1], rfl, fun j v hv => ?_, o1, c1, rfl, m1, r1⟩
    have hj : j = 0 := by
      have := (List.getElem?_eq_some_iff.1 hv).1
      simpa using this
    subst hj
    rw [show 0 + 0 * 1 + 0 = 0 by omega, cell_of hg]
    simpa using hv
  | i + 1, hx => simp at hx
theorem size1 (w : World) (A : Obj) : (w.alloc A).heap.size = w.heap.size + 1 := by simp
theorem size2 (w : World) (A B : Obj) : ((w.alloc A).alloc B).heap.size = w.heap.size + 2 := by simp
/-- A row of names that is answered: in order, just these, in a block of its own. -/
def SrtP (B : Nat) (T : List ByteArray) (W : World) (e : Ending) (w' : World) : Prop := ∃ o' c' l, e = .returned (.slice o' l.length c') ∧ BindR w' o' l ∧ (∀ b, bNone o' b → B ≤ b) ∧ SameB l T ∧ Below W.heap.size W w'
theorem nrow_bind {B : Nat} {w : World} {v : Value} {l : List ByteArray} (h : NRow B w v l) : ∃ o c, v = .slice o l.length c ∧ BindR w o l ∧ ∀ b, bNone o b → B ≤ b := by
  obtain ⟨⟨hl, hc⟩, hs, hm⟩ := h
  rcases hc with ⟨rfl, h0⟩ | ⟨g, cap, cur, rfl, hb, hg, hn, hcap, hsz, htk⟩
  · have hts : l = [] := List.length_eq_zero_iff.1 h0
    subst hts
    exact ⟨none, 0, rfl, .inl rfl, fun b hb => by obtain ⟨off, e⟩ := hb; cases e⟩
  · refine ⟨some ⟨g, 0, none⟩, cap, rfl, .inr ⟨g, 0, cur, rfl, hg, fun j s hj => ?_, hs⟩, fun b hb' => ?_⟩
    · have hi : j < l.length := (List.getElem?_eq_some_iff.1 hj).1
      have h9 : (cur.toList.take (l.length * 1))[j]? = (l.map Value.string)[j]? := by rw [htk]
      rw [List.getElem?_take_of_lt (by omega), List.getElem?_map, hj, Array.getElem?_toList] at h9
      rw [Nat.zero_add]
      exact h9
    · obtain ⟨off, e⟩ := hb'
      cases e
      exact hb
theorem srt_of {ls : List (List ByteArray)} {T : List ByteArray} {B : Nat} {W : World} (hB : B ≤ W.heap.size) (hT : ∀ y, y ∈ ls.flatten ↔ y ∈ T) {f : Nat} {av : Array Value} (h : Calls Tryz.prog f av W fun e w' => ∃ v l, e = .returned v ∧ NRow W.heap.size w' v l ∧ Srt l ∧ (∀ y, y ∈ l ↔ y ∈ ls.flatten) ∧ l.length ≤ 50000000 ∧ Below W.heap.size W w') : Calls Tryz.prog f av W (SrtP B T W) := by
  refine h.mono ?_
  rintro e w' ⟨v, l, rfl, hn, hs, hm, hln, hb⟩
  obtain ⟨o, c, rfl, h1, h2⟩ := nrow_bind hn
  exact ⟨o, c, l, rfl, h1, fun b hb' => Nat.le_trans hB (h2 b hb'), ⟨hs, hln, fun y => (hm y).trans (hT y)⟩, hb⟩
theorem sorted2_any {W : World} {B : Nat} (hB : B ≤ W.heap.size) {b : Nat} {o1 o2 : Option Addr} {c1 c2 : Nat} {l1 l2 : List ByteArray} {e : TypeId} {fz : Nat × Nat} (hg : W.heap[b]? = some (.cells #[.slice o1 l1.length c1, .slice o2 l2.length c2] e fz)) (m1 : l1.length ≤ 10000000) (m2 : l2.length ≤ 10000000) (r1 : RowOf (fun _ => True) W strR 1 o1 l1) (r2 : RowOf (fun _ => True) W strR 1 o2 l2) :
    Calls Tryz.prog 124 #[.slice (some ⟨b, 0, none⟩) 2 2] W (SrtP B (l1 ++ l2) W) :=
  srt_of hB (fun y => by simp) (sortedS_any [l1, l2] (some ⟨b, 0, none⟩) 2 W (two_rows hg (by unfold maxLen; omega) (by unfold maxLen; omega) r1 r2) (by simp) (by simp; omega))
theorem sorted1_any {W : World} {B : Nat} (hB : B ≤ W.heap.size) {b : Nat} {o1 : Option Addr} {c1 : Nat} {l1 : List ByteArray} {e : TypeId} {fz : Nat × Nat} (hg : W.heap[b]? = some (.cells #[.slice o1 l1.length c1] e fz)) (m1 : l1.length ≤ 10000000) (r1 : RowOf (fun _ => True) W strR 1 o1 l1) :
    Calls Tryz.prog 124 #[.slice (some ⟨b, 0, none⟩) 1 1] W (SrtP B l1 W) :=
  srt_of hB (fun y => by simp) (sortedS_any [l1] (some ⟨b, 0, none⟩) 1 W (one_rows hg (by unfold maxLen; omega) r1) (by simp) (by simp; omega))
/-- At a place stand cells. -/
def CellsA (w : World) (a : Addr) (cs : List Value) : Prop := ∀ j u, cs[j]? = some u → w.cell? ⟨a.block, a.off + j, none⟩ = some u
def NmP (xs : List Tr) (W : World) (e : Ending) (w' : World) : Prop := ∃ v l, e = .returned v ∧ NRow W.heap.size w' v l ∧ l.length = xs.length ∧ l = xs.map Tr.s ∧ Below W.heap.size W w'
theorem names_any {K : Nat → Prop} {h : Nat} (xs : List Tr) (o : Option Addr) (c : Nat) (w : World) (hx : RowOf K w (reads K w h).de 9 o xs) (hl : xs.length ≤ 10000000) : Calls Tryz.prog 37 #[.slice o xs.length c] w (NmP xs w) := by
  refine (namesOfDecsS_any xs o c w hx hl).mono ?_
  rintro e w' ⟨v, rfl, hn, hb⟩
  exact ⟨v, _, rfl, hn, List.length_map _, rfl, hb⟩
theorem bind_set {w : World} {g j : Nat} {cur : Array Value} {t : TypeId} {fz : Nat × Nat} (hg : w.heap[g]? = some (.cells cur t fz)) (ht : t ≠ 9) (v : Value) {o : Option Addr} {l : List ByteArray} (h : BindR w o l) : BindR (w.setCell ⟨g, j, none⟩ v) o l :=
  h.keep fun b c hb => heap_set_other v fun e => by
    rw [e, hg] at hb
    cases hb
    exact ht rfl
/-- Behind what binds: its row, and what it is. -/
def RelB (w W : World) (o : Option Addr) (l B : List ByteArray) : Prop := BindR W o l ∧ (∀ b, bNone o b → w.heap.size ≤ b) ∧ SameB l B ∧ Below w.heap.size w W
theorem set2 {w : World} {g : Nat} {u0 u1 : Value} (v0 v1 : Value) (t : TypeId) (h : w.heap[g]? = some (.cells #[u0, u1] t (0, 0))) : ((w.setCell ⟨g, 0, none⟩ v0).setCell ⟨g, 1, none⟩ v1).heap[g]? = some (.cells #[v0, v1] t (0, 0)) := by
  have h9 := heap_set_same (j := 1) v1 (heap_set_same (j := 0) v0 h)
  simpa using h9
end Go.Proofs.YtlaeenfeajkcfalGreat.Fr
