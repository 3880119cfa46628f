/- The program's net in memory; newNet, placeOfExp, placeOfDec. -/
import Derived.Test.YtihjpkldefllgakGreatBE
import Derived.Test.YtihjpkldefllgakGreatNB
namespace Go.Proofs.YtihjpkldefllgakGreat.Nm
open Go.ChangeShapes Go.WideShapes Go.ChangeAt Go.RowKit

theorem ptr_of {t te : TypeId} {n : Nat} (hu : Tryz.prog.underlying t = some (.pointer te)) (hi : (Tryz.prog.info? te).map (fun i => i.size) = some n) (hn : n ≠ 0) : PtrTy Tryz.prog t := by
  cases hj : Tryz.prog.info? te with
  | none => rw [hj] at hi; cases hi
  | some j =>
    rw [hj] at hi
    simp at hi
    exact ⟨te, j, hu, hj, by omega⟩
theorem ptr_exp : PtrTy Tryz.prog 91 := ptr_of Tryz.underlying91 (n := 6) (by kernel_rfl) (by omega)
theorem ptr_dec : PtrTy Tryz.prog 85 := ptr_of Tryz.underlying85 (n := 9) (by kernel_rfl) (by omega)
theorem zero_int (w : World) : (zeroValue 3).run Tryz.prog w = .ok (.int .i64 0) w := by
  have hi : (Tryz.prog.info? 3).map (fun i => (i.zero, i.size, i.bytes)) = some (some (.int .i64 0), 1, 8) := by kernel_rfl
  obtain ⟨i0, h1, h2, -, -⟩ := info_parts hi
  simp [zeroValue, typeInfo, h1, h2]
theorem PMap.look2 {P : Program} {T t u : TypeId} (hT : P.underlying T = some (.map t u)) (ht : PtrTy P t) (hz : ∀ w, (zeroValue u).run P w = .ok (.int .i64 0) w) {w : World} {m : Nat} {l : List (Addr × Nat)} (h : PMap w m l) {a : Addr} (ha : PlainAt w a) (hp : ∀ b ∈ keysOf l, PlainAt w b) :
    (Instr.lookup T (.map (some m)) (.pointer (some a)) true).run P w = .ok (.tuple #[.int .i64 (getA l a : Int), .bool (findA l a 0).isSome]) w := by
  obtain ⟨es, clock, hm, hk⟩ := h
  have hg : (getObj m).run P w = .ok (.map es clock) w := by simp [getObj, Sem.run, hm]
  have hf := findKey_run ht w ha es.toList l hk.ents hp
  have hc := fun b => check_ptr ht b w a
  unfold ptrV at hf hc
  unfold getA
  cases hx : findA l a 0 with
  | none =>
    rw [hx] at hf
    simp [Instr.lookup, run_underlying hT, hg, hc, hf, hz]
  | some x =>
    rw [hx] at hf
    simp [Instr.lookup, run_underlying hT, hg, hc, hf]

/-- A place's cells: what it is of, and its ways. -/
def keyC (k : Bool × Addr) (v : Value) : List Value := if k.1 then [.pointer (some k.2), .pointer none, v, .int .i64 0] else [.pointer none, .pointer (some k.2), v, .int .i64 0]
def rowN (ks : List (Bool × Addr)) (ws : List Value) : List Value := (List.zipWith keyC ks ws).flatten
theorem keyC_len (k : Bool × Addr) (v : Value) : (keyC k v).length = 4 := by unfold keyC; split <;> rfl
theorem rowN_get : ∀ (ks : List (Bool × Addr)) (ws : List Value) (i : Nat) (k : Bool × Addr) (v : Value), ks[i]? = some k → ws[i]? = some v → ∀ j, j < 4 → (rowN ks ws)[i * 4 + j]? = (keyC k v)[j]? := by
  intro ks
  induction ks with
  | nil => intro ws i k v h; simp at h
  | cons k0 ks ih =>
    intro ws i k v hk hv j hj
    cases ws with
    | nil => simp at hv
    | cons v0 ws =>
      have e : rowN (k0 :: ks) (v0 :: ws) = keyC k0 v0 ++ rowN ks ws := rfl
      rw [e]
      cases i with
      | zero =>
        have h1 : k0 = k := by simpa using hk
        have h2 : v0 = v := by simpa using hv
        subst h1 h2
        rw [Nat.zero_mul, Nat.zero_add, List.getElem?_append_left (by rw [keyC_len]; exact hj)]
      | succ i =>
        rw [List.getElem?_append_right (by rw [keyC_len]; omega), keyC_len, show (i + 1) * 4 + j - 4 = i * 4 + j by omega]
        exact ih ws i k v (by simpa using hk) (by simpa using hv) j hj
theorem rowN_snoc : ∀ (ks : List (Bool × Addr)) (ws : List Value) (k : Bool × Addr) (v : Value), ws.length = ks.length → rowN (ks ++ [k]) (ws ++ [v]) = rowN ks ws ++ keyC k v := by
  intro ks
  induction ks with
  | nil =>
    intro ws k v h
    have : ws = [] := List.eq_nil_of_length_eq_zero h
    subst this
    simp [rowN]
  | cons k0 ks ih =>
    intro ws k v h
    cases ws with
    | nil => simp at h
    | cons v0 ws =>
      have e := ih ws k v (by simpa using h)
      show keyC k0 v0 ++ rowN (ks ++ [k]) (ws ++ [v]) = (keyC k0 v0 ++ rowN ks ws) ++ keyC k v
      rw [e, List.append_assoc]
theorem rowN_set : ∀ (ks : List (Bool × Addr)) (ws : List Value) (i : Nat) (v : Value), ws.length = ks.length → i < ks.length → rowN ks (ws.set i v) = (rowN ks ws).set (i * 4 + 2) v := by
  intro ks
  induction ks with
  | nil => intro ws i v _ h; simp at h
  | cons k0 ks ih =>
    intro ws i v h hi
    cases ws with
    | nil => simp at h
    | cons v0 ws =>
      cases i with
      | zero =>
        show keyC k0 v ++ rowN ks ws = (keyC k0 v0 ++ rowN ks ws).set (0 * 4 + 2) v
        rw [List.set_append_left _ _ (by rw [keyC_len]; omega)]
        congr 1
        unfold keyC
        split <;> rfl
      | succ i =>
        show keyC k0 v0 ++ rowN ks (ws.set i v) = (keyC k0 v0 ++ rowN ks ws).set ((i + 1) * 4 + 2) v
        rw [ih ws i v (by simpa using h) (by simpa using hi), List.set_append_right _ _ (by rw [keyC_len]; omega), keyC_len, show (i + 1) * 4 + 2 - 4 = i * 4 + 2 by omega]

def WayV (w : World) (L : Nat) (v : Value) : Prop := ∃ m xs, m ≤ L ∧ w.ownsRow 0 135 2 v m xs
theorem WayV.keep {w w' : World} {L : Nat} {v : Value} (h : WayV w L v) (hb : ∀ g cur, w.heap[g]? = some (.cells cur 135 (0, 0)) → v.ownBlock = some g → w'.heap[g]? = w.heap[g]?) : WayV w' L v := by
  obtain ⟨m, xs, h1, h2, h3⟩ := h
  refine ⟨m, xs, h1, h2, ?_⟩
  rcases h3 with h3 | ⟨g, cap, cur, hv, hbg, hg, rest⟩
  · exact .inl h3
  · exact .inr ⟨g, cap, cur, hv, hbg, (hb g cur hg (by rw [hv]; rfl)).trans hg, rest⟩
theorem WayV.lt {w : World} {L : Nat} {v : Value} (h : WayV w L v) : ∀ g, v.ownBlock = some g → g < w.heap.size := by
  obtain ⟨m, xs, h1, h2⟩ := h
  exact fun g hg => (owns_lt h2 g hg).1
theorem WayV.nil (w : World) (L : Nat) : WayV w L (.slice none 0 0) := ⟨0, [], Nat.zero_le _, World.ownsRow_nil _ _ _ _⟩

/-- The net: its places (what each is of), and its maps. -/
structure NetR (KP KS : Nat → Prop) (w : World) (n : Nat) (ks : List (Bool × Addr)) (L : Nat) (l1 l2 : List (Addr × Nat)) (pv : Value) (me md : Nat) (ws : List Value) : Prop where
  obj : w.heap[n]? = some (.cells #[pv, .map (some me), .map (some md), .int .i64 0] 90 (0, 0))
  row : w.ownsRow 0 94 4 pv ks.length (rowN ks ws)
  lenw : ws.length = ks.length
  m1 : PMap w me l1
  m2 : PMap w md l2
  neq : me ≠ md
  off : ¬ KS n ∧ ¬ KS me ∧ ¬ KS md
  offr : ∀ g, pv.ownBlock = some g → ¬ KS g
  offw : ∀ v ∈ ws, ∀ g, v.ownBlock = some g → ¬ KS g
  kslt : ∀ b, KS b → b < w.heap.size
  way : ∀ v ∈ ws, WayV w L v
  apart : ∀ (i j : Nat) (v v' : Value) (g : Nat), i ≠ j → ws[i]? = some v → ws[j]? = some v' → v.ownBlock = some g → v'.ownBlock ≠ some g
  idx1 : ∀ a i, (a, i) ∈ l1 → ks[i]? = some (true, a)
  idx2 : ∀ a i, (a, i) ∈ l2 → ks[i]? = some (false, a)
  kk : ∀ k ∈ ks, KP k.2.block
  plain : ∀ b, KP b → KS b ∧ PlainAt w ⟨b, 0, none⟩
def Net (KP KS : Nat → Prop) (w : World) (n : Nat) (ks : List (Bool × Addr)) (L : Nat) : Prop := ∃ l1 l2 pv me md ws, NetR KP KS w n ks L l1 l2 pv me md ws
section
variable {KP KS : Nat → Prop} {w : World} {n : Nat} {ks : List (Bool × Addr)} {L : Nat} {l1 l2 : List (Addr × Nat)} {pv : Value} {me md : Nat} {ws : List Value}
theorem NetR.plainAt (h : NetR KP KS w n ks L l1 l2 pv me md ws) {a : Addr} (ha : KP a.block) : PlainAt w a := by
  obtain ⟨-, c, e, h1⟩ := h.plain a.block ha
  exact ⟨c, e, h1⟩
theorem NetR.keys1 (h : NetR KP KS w n ks L l1 l2 pv me md ws) : ∀ b ∈ keysOf l1, PlainAt w b := by
  intro b hb
  obtain ⟨⟨a, i⟩, hp, rfl⟩ := List.mem_map.1 hb
  exact h.plainAt (h.kk _ (List.mem_of_getElem? (h.idx1 a i hp)))
theorem NetR.keys2 (h : NetR KP KS w n ks L l1 l2 pv me md ws) : ∀ b ∈ keysOf l2, PlainAt w b := by
  intro b hb
  obtain ⟨⟨a, i⟩, hp, rfl⟩ := List.mem_map.1 hb
  exact h.plainAt (h.kk _ (List.mem_of_getElem? (h.idx2 a i hp)))
/-- Any change that leaves what the net is made of. -/
theorem NetR.later {w' : World} (h : NetR KP KS w n ks L l1 l2 pv me md ws) (hs : w.heap.size ≤ w'.heap.size) (hb : ∀ k, k < w.heap.size → w'.heap[k]? = w.heap[k]?) : NetR KP KS w' n ks L l1 l2 pv me md ws := by
  obtain ⟨obj, row, lenw, m1, m2, neq, off, offr, offw, kslt, way, apart, idx1, idx2, kk, plain⟩ := h
  refine ⟨(hb n (heap_lt obj)).trans obj, owns_block row fun g hg => hb g (owns_lt row g hg).1, lenw, m1.keep (hb me m1.lt), m2.keep (hb md m2.lt), neq, off, offr, offw, fun b hb => Nat.lt_of_lt_of_le (kslt b hb) hs, fun v hv => (way v hv).keep fun g cur hg _ => hb g (heap_lt hg), apart, idx1, idx2, kk, fun b hKb => ?_⟩
  obtain ⟨h1, c, e, h2⟩ := plain b hKb
  exact ⟨h1, c, e, (hb b (heap_lt h2)).trans h2⟩
end
theorem Net.later {KP KS : Nat → Prop} {w w' : World} {n : Nat} {ks : List (Bool × Addr)} {L : Nat} (h : Net KP KS w n ks L) (hb : Below w.heap.size w w') : Net KP KS w' n ks L := by
  obtain ⟨l1, l2, pv, me, md, ws, h⟩ := h
  exact ⟨l1, l2, pv, me, md, ws, h.later hb.size fun k hk => hb.block k hk⟩
theorem Net.lt {KP KS : Nat → Prop} {w : World} {n : Nat} {ks : List (Bool × Addr)} {L : Nat} (h : Net KP KS w n ks L) : n < w.heap.size := by
  obtain ⟨l1, l2, pv, me, md, ws, h⟩ := h
  exact heap_lt h.obj
/-- Blocks made since stay, too. -/
theorem Net.more {KP KS : Nat → Prop} {w w' : World} {n : Nat} {ks : List (Bool × Addr)} {L : Nat} (h : Net KP KS w n ks L) (hb : Below w.heap.size w w') : Net KP (fun k => KS k ∨ (w.heap.size ≤ k ∧ k < w'.heap.size)) w' n ks L := by
  obtain ⟨l1, l2, pv, me, md, ws, h⟩ := h
  have h2 := h.later hb.size fun k hk => hb.block k hk
  refine ⟨l1, l2, pv, me, md, ws, ⟨h2.obj, h2.row, h2.lenw, h2.m1, h2.m2, h2.neq, ?_, ?_, ?_, ?_, h2.way, h2.apart, h2.idx1, h2.idx2, h2.kk, fun b hb2 => ⟨.inl (h2.plain b hb2).1, (h2.plain b hb2).2⟩⟩⟩
  · have a1 := heap_lt h.obj
    have a2 := h.m1.lt
    have a3 := h.m2.lt
    refine ⟨fun e => ?_, fun e => ?_, fun e => ?_⟩
    · rcases e with e | e
      · exact h.off.1 e
      · omega
    · rcases e with e | e
      · exact h.off.2.1 e
      · omega
    · rcases e with e | e
      · exact h.off.2.2 e
      · omega
  · intro g hg e
    have := (owns_lt h.row g hg).1
    rcases e with e | e
    · exact h.offr g hg e
    · omega
  · intro v hv g hg e
    have := (h.way v hv).lt g hg
    rcases e with e | e
    · exact h.offw v hv g hg e
    · omega
  · intro b e
    rcases e with e | e
    · exact h2.kslt b e
    · exact e.2
theorem Net.less {KP KS KS' : Nat → Prop} {w : World} {n : Nat} {ks : List (Bool × Addr)} {L : Nat} (h : Net KP KS w n ks L) (hk : ∀ b, KS' b → KS b) (hp : ∀ b, KP b → KS' b) : Net KP KS' w n ks L := by
  obtain ⟨l1, l2, pv, me, md, ws, h⟩ := h
  exact ⟨l1, l2, pv, me, md, ws, ⟨h.obj, h.row, h.lenw, h.m1, h.m2, h.neq, ⟨fun e => h.off.1 (hk _ e), fun e => h.off.2.1 (hk _ e), fun e => h.off.2.2 (hk _ e)⟩, fun g hg e => h.offr g hg (hk _ e), fun v hv g hg e => h.offw v hv g hg (hk _ e), fun b hb => h.kslt b (hk b hb), h.way, h.apart, h.idx1, h.idx2, h.kk, fun b hb => ⟨hp b hb, (h.plain b hb).2⟩⟩⟩
theorem place_info : (Tryz.prog.info? 94).map (fun i => (i.zero, i.size, i.bytes)) = some (some (.agg #[.pointer none, .pointer none, .slice none 0 0, .int .i64 0]), 4, 48) := by kernel_rfl
theorem way_info : (Tryz.prog.info? 135).map (fun i => (i.zero, i.size, i.bytes)) = some (some (.agg #[.int .i64 0, .slice none 0 0]), 2, 32) := by kernel_rfl

set_option maxHeartbeats 1000000 in
set_option maxRecDepth 100000 in
theorem newNet_any (KP KS : Nat → Prop) (w : World) (hks : ∀ b, KS b → b < w.heap.size) (hp : ∀ b, KP b → KS b ∧ PlainAt w ⟨b, 0, none⟩) : Calls Tryz.prog 36 #[] w fun e w' => ∃ n, e = .returned (.pointer (some ⟨n, 0, none⟩)) ∧ Net KP KS w' n [] 0 ∧ Below w.heap.size w w' := by
  have hmm := @run_makeMap Tryz.prog
  have HP := hide hp
  have HKS := hide hks
  clear hp hks
  go_enter Tryz.func36, Tryz.ntmps36
  go_wp2
  go_ret
  have hb : Below w.heap.size w (((w.alloc (.map #[] 0)).alloc (.map #[] 0)).alloc (.cells #[.slice none 0 0, .map (some w.heap.size), .map (some (w.heap.size + 1)), .int .i64 0] 90)) := (((Below.refl _ w).alloc (Nat.le_refl _) _).alloc (by simp) _).alloc (by simp; omega) _
  refine ⟨w.heap.size + 1 + 1, rfl, ⟨[], [], .slice none 0 0, w.heap.size, w.heap.size + 1, [], ⟨?_, World.ownsRow_nil _ _ _ _, rfl, ?_, ?_, by omega, ⟨fun e => (by have := HKS.out _ e; omega), fun e => (by have := HKS.out _ e; omega), fun e => (by have := HKS.out _ e; omega)⟩, fun g hg => (by cases hg), fun v hv => (by cases hv), fun b hb2 => (by have := HKS.out b hb2; have := hb.size; omega), fun v hv => (by cases hv), fun i j v v' g _ h => (by simp at h), fun a i h => (by cases h), fun a i h => (by cases h), fun k hk => (by cases hk), fun b hKb => ?_⟩⟩, hb⟩
  · have h9 := heap_alloc_new ((w.alloc (.map #[] 0)).alloc (.map #[] 0)) (.cells #[.slice none 0 0, .map (some w.heap.size), .map (some (w.heap.size + 1)), .int .i64 0] 90)
    simpa using h9
  · have h9 := (PMap.new w).keep (w' := ((w.alloc (.map #[] 0)).alloc (.map #[] 0)).alloc (.cells #[.slice none 0 0, .map (some w.heap.size), .map (some (w.heap.size + 1)), .int .i64 0] 90)) ((heap_alloc_old _ _ (by simp; omega)).trans (heap_alloc_old _ _ (by simp)))
    exact h9
  · have h9 := (PMap.new (w.alloc (.map #[] 0))).keep (w' := ((w.alloc (.map #[] 0)).alloc (.map #[] 0)).alloc (.cells #[.slice none 0 0, .map (some w.heap.size), .map (some (w.heap.size + 1)), .int .i64 0] 90)) (heap_alloc_old _ _ (by simp))
    simpa using h9
  · obtain ⟨h1, c, e, h2⟩ := HP.out b hKb
    exact ⟨h1, c, e, (hb.block b (HKS.out b h1)).trans h2⟩
end Go.Proofs.YtihjpkldefllgakGreat.Nm
