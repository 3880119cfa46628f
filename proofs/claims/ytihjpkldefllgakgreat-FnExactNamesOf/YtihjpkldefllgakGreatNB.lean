/- Maps of counts in memory; one that is gone through. -/
import Derived.Test.YtihjpkldefllgakGreatNA
import Derived.Test.YtihjpkldefllgakGreatLA
namespace Go.Proofs.YtihjpkldefllgakGreat
open Go.RowKit
open Go.ChangeMaps (setBlock heap_setBlock_same heap_setBlock_other)

/-- In block m lies a map of these counts. -/
def PMap (w : World) (m : Nat) (l : List (Addr × Nat)) : Prop := ∃ es clock, w.heap[m]? = some (.map es clock) ∧ EntsAre es clock l
theorem PMap.keep {w w' : World} {m : Nat} {l : List (Addr × Nat)} (h : PMap w m l) (hb : w'.heap[m]? = w.heap[m]?) : PMap w' m l := by
  obtain ⟨es, c, h1, h2⟩ := h
  exact ⟨es, c, hb.trans h1, h2⟩
theorem PMap.lt {w : World} {m : Nat} {l : List (Addr × Nat)} (h : PMap w m l) : m < w.heap.size := by
  obtain ⟨es, c, h1, -⟩ := h
  rcases Nat.lt_or_ge m w.heap.size with h2 | h2
  · exact h2
  · simp [Array.getElem?_eq_none h2] at h1
theorem PMap.nodup {w : World} {m : Nat} {l : List (Addr × Nat)} (h : PMap w m l) : (keysOf l).Nodup := by
  obtain ⟨es, c, -, h2⟩ := h
  exact h2.keys
theorem PMap.new (w : World) : PMap (w.alloc (.map #[] 0)) w.heap.size [] := ⟨#[], 0, heap_alloc_new w _, EntsAre.none⟩
/-- All is kept but one block. -/
def But (m : Nat) (w w' : World) : Prop := Keeps (fun k => k < w.heap.size ∧ k ≠ m) w w'
theorem But.refl (m : Nat) (w : World) : But m w w := Keeps.refl _ _
theorem But.trans {m : Nat} {a b c : World} (h : But m a b) (k : But m b c) : But m a c :=
  ⟨k.os.trans h.os, k.tape.trans h.tape, k.output.trans h.output, Nat.le_trans h.size k.size, fun i hi => (k.block i ⟨Nat.lt_of_lt_of_le hi.1 h.size, hi.2⟩).trans (h.block i hi)⟩
theorem But.of {m : Nat} {w w' : World} (h : Below w.heap.size w w') : But m w w' := ⟨h.os, h.tape, h.output, h.size, fun k hk => h.block k hk.1⟩
theorem But.set {w : World} {m : Nat} {es es' : Array MapEntry} {c c' : Nat} (hm : w.heap[m]? = some (.map es c)) : But m w (setBlock w m (.map es' c')) :=
  ⟨rfl, rfl, rfl, by simp [setBlock], fun _ hk => heap_setBlock_other hm _ hk.2⟩
theorem PMap.update {P : Program} {T t u : TypeId} (hT : P.underlying T = some (.map t u)) (ht : PtrTy P t) {w : World} {m : Nat} {l : List (Addr × Nat)} (h : PMap w m l) {a : Addr} (v : Nat) (ha : PlainAt w a) (hp : ∀ b ∈ keysOf l, PlainAt w b) :
    ∃ w', (Instr.mapUpdate T (.map (some m)) (.pointer (some a)) (.int .i64 (v : Int))).run P w = .ok () w' ∧ PMap w' m (setA l a v) ∧ But m w w' ∧ w'.heap.size = w.heap.size := by
  obtain ⟨es, c, h1, h2⟩ := h
  obtain ⟨es', c', h3, h4⟩ := update_ptr hT ht w v h1 h2 ha hp
  exact ⟨_, h3, ⟨es', c', heap_setBlock_same h1 _, h4⟩, But.set h1, by simp [setBlock]⟩
theorem PMap.look {P : Program} {T t u : TypeId} (hT : P.underlying T = some (.map t u)) (ht : PtrTy P t) (hz : ∀ w, (zeroValue u).run P w = .ok (.int .i64 0) w) {w : World} {m : Nat} {l : List (Addr × Nat)} (h : PMap w m l) {a : Addr} (ha : PlainAt w a) (hp : ∀ b ∈ keysOf l, PlainAt w b) :
    (Instr.lookup T (.map (some m)) (.pointer (some a)) false).run P w = .ok (.int .i64 (getA l a : Int)) w := by
  obtain ⟨es, c, h1, h2⟩ := h
  exact look_ptr hT ht hz w h1 h2 ha hp

def pairOf (e : MapEntry) : Addr × Nat := (match e.key with | .pointer (some a) => a | _ => ⟨0, 0, none⟩, match e.val with | .int _ v => v.toNat | _ => 0)
theorem EntsAre.pairs {es : Array MapEntry} {clock : Nat} {l : List (Addr × Nat)} (h : EntsAre es clock l) : es.toList.map pairOf = l ∧ ∀ e ∈ es.toList, e.key = ptrV (pairOf e).1 ∧ e.val = .int .i64 ((pairOf e).2 : Int) := by
  have key : ∀ (es : List MapEntry) (l : List (Addr × Nat)), es.map (fun e => (e.key, e.val)) = l.map entV → es.map pairOf = l ∧ ∀ e ∈ es, e.key = ptrV (pairOf e).1 ∧ e.val = .int .i64 ((pairOf e).2 : Int) := by
    intro es
    induction es with
    | nil =>
      intro l h
      simp at h
      subst h
      exact ⟨rfl, fun e he => by cases he⟩
    | cons e r ih =>
      intro l h
      cases l with
      | nil => simp at h
      | cons p l =>
        simp only [List.map_cons, List.cons.injEq] at h
        obtain ⟨h1, h2⟩ := h
        obtain ⟨h3, h4⟩ := ih l h2
        have hk : e.key = ptrV p.1 := congrArg Prod.fst h1
        have hv : e.val = .int .i64 (p.2 : Int) := congrArg Prod.snd h1
        have hp : pairOf e = p := by
          unfold pairOf
          rw [hk, hv]
          simp [ptrV]
        refine ⟨by rw [List.map_cons, hp, h3], fun x hx => ?_⟩
        rcases List.mem_cons.1 hx with rfl | hx
        · rw [hp]; exact ⟨hk, hv⟩
        · exact h4 x hx
  exact key _ _ h.ents
theorem perm_born (e : MapEntry) : ∀ (l : List MapEntry), (l.map (·.born)).Nodup → e ∈ l → l.Perm (e :: l.filter fun x => !(x.born == e.born)) := by
  intro l
  induction l with
  | nil => intro _ h; cases h
  | cons x r ih =>
    intro hn he
    have hn' : x.born ∉ r.map (·.born) ∧ (r.map (·.born)).Nodup := List.nodup_cons.1 hn
    rcases List.mem_cons.1 he with rfl | he
    · have h1 : r.filter (fun x => !(x.born == e.born)) = r := by
        rw [List.filter_eq_self]
        intro y hy
        have : y.born ≠ e.born := fun hc => hn'.1 (List.mem_map.2 ⟨y, hy, hc⟩)
        simpa using this
      rw [List.filter_cons_of_neg (by simp), h1]
    · have h2 : x.born ≠ e.born := fun hc => hn'.1 (List.mem_map.2 ⟨e, he, hc.symm⟩)
      rw [List.filter_cons_of_pos (by simpa using h2)]
      exact ((ih hn'.2 he).cons x).trans (List.Perm.swap _ _ _)
def restL (es : Array MapEntry) (seen : Array Nat) : List (Addr × Nat) := (leftOf es seen).toList.map pairOf
/-- A map is gone through: what is done, and what is left. -/
structure Goes (w : World) (r m : Nat) (l done rest : List (Addr × Nat)) : Prop where
  mem : ∃ es clock seen, w.heap[r]? = some (.mapIter (some m) clock seen clock) ∧ w.heap[m]? = some (.map es clock) ∧ EntsAre es clock l ∧ rest = restL es seen
  perm : (done ++ rest).Perm l
theorem Goes.keep {w w' : World} {r m : Nat} {l done rest : List (Addr × Nat)} (h : Goes w r m l done rest) (hr : w'.heap[r]? = w.heap[r]?) (hm : w'.heap[m]? = w.heap[m]?) : Goes w' r m l done rest := by
  obtain ⟨⟨es, c, seen, h1, h2, h3, h4⟩, h5⟩ := h
  exact ⟨⟨es, c, seen, hr.trans h1, hm.trans h2, h3, h4⟩, h5⟩
theorem Goes.map {w : World} {r m : Nat} {l done rest : List (Addr × Nat)} (h : Goes w r m l done rest) : PMap w m l := by
  obtain ⟨⟨es, c, seen, h1, h2, h3, h4⟩, h5⟩ := h
  exact ⟨es, c, h2, h3⟩
theorem Goes.lt {w : World} {r m : Nat} {l done rest : List (Addr × Nat)} (h : Goes w r m l done rest) : r < w.heap.size := by
  obtain ⟨⟨es, c, seen, h1, h2, h3, h4⟩, h5⟩ := h
  rcases Nat.lt_or_ge r w.heap.size with h2 | h2
  · exact h2
  · simp [Array.getElem?_eq_none h2] at h1
/-- How many are left, read off the memory. -/
def restLen (w : World) (r m : Nat) : Nat := match w.heap[r]?, w.heap[m]? with | some (.mapIter _ _ seen _), some (.map es _) => (leftOf es seen).size | _, _ => 0
theorem Goes.left {w : World} {r m : Nat} {l done rest : List (Addr × Nat)} (h : Goes w r m l done rest) : restLen w r m = rest.length := by
  obtain ⟨⟨es, c, seen, h1, h2, h3, h4⟩, h5⟩ := h
  unfold restLen
  rw [h1, h2, h4]
  simp [restL]
theorem PMap.range {P : Program} {T t u : TypeId} (hT : P.underlying T = some (.map t u)) {w : World} {m : Nat} {l : List (Addr × Nat)} (h : PMap w m l) :
    ∃ w' rest, (Instr.range T (.map (some m))).run P w = .ok (.pointer (some ⟨w.heap.size, 0, none⟩)) w' ∧ Goes w' w.heap.size m l [] rest ∧ Below w.heap.size w w' ∧ w'.heap.size = w.heap.size + 1 := by
  have hlt := h.lt
  obtain ⟨es, c, h1, h2⟩ := h
  refine ⟨_, restL es #[], run_range_map w T t u m es c hT h1, ⟨⟨es, c, #[], heap_alloc_new w _, (heap_alloc_old w _ hlt).trans h1, h2, rfl⟩, ?_⟩, (Below.refl _ w).alloc (Nat.le_refl _) _, by simp⟩
  have h3 : restL es #[] = l := by
    unfold restL leftOf
    rw [Array.filter_eq_self.2 (fun x _ => by simp)]
    exact h2.pairs.1
  rw [h3]
  exact List.Perm.refl _
theorem Goes.next {P : Program} {w : World} {r m : Nat} {l done rest : List (Addr × Nat)} (h : Goes w r m l done rest) :
    (rest = [] ∧ ∀ ty, (Instr.next (.pointer (some ⟨r, 0, none⟩)) false ty).run P w = .ok (.tuple #[.bool false]) w) ∨
    ∃ p rest' w', rest.Perm (p :: rest') ∧ (∀ ty, (Instr.next (.pointer (some ⟨r, 0, none⟩)) false ty).run P w = .ok (.tuple #[.bool true, .pointer (some p.1), .int .i64 (p.2 : Int)]) w') ∧ Goes w' r m l (done ++ [p]) rest' ∧ But r w w' ∧ w'.heap.size = w.heap.size ∧ (Instr.entry (.pointer (some ⟨r, 0, none⟩))).run P w' = .ok (.tuple #[.pointer (some p.1), .int .i64 (p.2 : Int)]) w' := by
  obtain ⟨⟨es, c, seen, h1, h2, h3, h4⟩, h5⟩ := h
  have hp := h3.pairs
  have hne : m ≠ r := by
    intro e
    rw [e, h1] at h2
    cases h2
  rcases run_next_at (P := P) w 0 r m c c seen es c h1 h2 h3.old (Nat.le_refl _) with ⟨h6, h7⟩ | ⟨e, he, w1, hw, h7⟩
  · refine .inl ⟨?_, fun ty => h7⟩
    rw [h4]
    unfold restL
    rw [Array.eq_empty_of_size_eq_zero h6]
    rfl
  · have hw1r : w1.heap = w.heap := by rcases hw with rfl | rfl <;> rfl
    obtain ⟨he1, he2⟩ := mem_left he
    obtain ⟨k1, k2⟩ := hp.2 e he1
    rw [k1, k2] at h7
    have hr1 : w1.heap[r]? = some (.mapIter (some m) c seen c) := by rw [hw1r]; exact h1
    have hset1 : (setBlock w1 r (.mapIter (some m) c (seen.push e.born) c)).heap[r]? = some (.mapIter (some m) c (seen.push e.born) c) := by
      have hlt : r < w1.heap.size := by
        rcases Nat.lt_or_ge r w1.heap.size with h2 | h2
        · exact h2
        · simp [Array.getElem?_eq_none h2] at hr1
      unfold setBlock
      simp [hlt]
    have hset2 : ∀ k, k ≠ r → (setBlock w1 r (.mapIter (some m) c (seen.push e.born) c)).heap[k]? = w.heap[k]? := by
      intro k hk
      unfold setBlock
      simp only [hw1r]
      exact Array.getElem?_setIfInBounds_ne (fun e => hk e.symm)
    have hm1 := (hset2 m hne).trans h2
    have hperm : rest.Perm (pairOf e :: restL es (seen.push e.born)) := by
      rw [h4]
      have h8 : (leftOf es (seen.push e.born)).toList = ((leftOf es seen).toList).filter fun x => !(x.born == e.born) := by
        unfold leftOf
        rw [Array.toList_filter, Array.toList_filter, List.filter_filter]
        congr 1
        funext x
        rw [contains_push]
        cases seen.contains x.born <;> cases (x.born == e.born) <;> rfl
      have hnd : (((leftOf es seen).toList).map (·.born)).Nodup := by
        unfold leftOf
        rw [Array.toList_filter]
        exact h3.born.sublist (List.Sublist.map _ List.filter_sublist)
      have h9 := (perm_born e _ hnd he).map pairOf
      rw [← h8] at h9
      exact h9
    refine .inr ⟨pairOf e, restL es (seen.push e.born), _, hperm, fun ty => h7, ⟨⟨es, c, seen.push e.born, hset1, hm1, h3, rfl⟩, ?_⟩, ?_, ?_, ?_⟩
    · refine List.Perm.trans ?_ h5
      rw [List.append_assoc]
      exact List.Perm.append_left _ hperm.symm
    · refine ⟨?_, ?_, ?_, ?_, fun k hk => hset2 k hk.2⟩
      · rcases hw with rfl | rfl <;> rfl
      · rcases hw with rfl | rfl <;> rfl
      · rcases hw with rfl | rfl <;> rfl
      · simp [setBlock, hw1r]
    · simp [setBlock, hw1r]
    · have h10 := run_entry_at (P := P) _ r m c seen es c e hset1 hm1 he1 h3.born
      rw [k1, k2] at h10
      exact h10
end Go.Proofs.YtihjpkldefllgakGreat
