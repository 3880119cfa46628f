/- Maps of names whose values are rows of numbers; the program's asked. -/
import Derived.Test.YtihjpkldefllgakGreatCO
import Derived.Test.YtihjpkldefllgakGreatBP
namespace Go.Proofs.YtihjpkldefllgakGreat.Nm
open Go.ChangeShapes Go.WideShapes Go.ChangeAt Go.RowKit

/-- A slice, one to one as a datum. -/
def datS : Value → Option (DataW Unit × List MemPlace)
  | .slice none n c => some (.agg [.lit (.int .i64 n), .lit (.int .i64 c)], [])
  | .slice (some ⟨b, off, none⟩) n c => some (.agg [.lit (.int .i64 b), .lit (.int .i64 off), .lit (.int .i64 n), .lit (.int .i64 c)], [])
  | _ => none
theorem datS_form {v : Value} {z : DataW Unit × List MemPlace} (h : datS v = some z) : (∃ n c, v = .slice none n c ∧ z = (.agg [.lit (.int .i64 (n : Nat)), .lit (.int .i64 (c : Nat))], [])) ∨ (∃ b off n c, v = .slice (some ⟨b, off, none⟩) n c ∧ z = (.agg [.lit (.int .i64 (b : Nat)), .lit (.int .i64 (off : Nat)), .lit (.int .i64 (n : Nat)), .lit (.int .i64 (c : Nat))], [])) := by
  unfold datS at h
  split at h
  · rename_i n c
    cases h
    exact .inl ⟨n, c, rfl, rfl⟩
  · rename_i b off n c
    cases h
    exact .inr ⟨b, off, n, c, rfl, rfl⟩
  · cases h
theorem datS_inj {v v' : Value} {z : DataW Unit × List MemPlace} (h : datS v = some z) (h' : datS v' = some z) : v = v' := by
  rcases datS_form h with ⟨n, c, rfl, rfl⟩ | ⟨b, off, n, c, rfl, rfl⟩
  · rcases datS_form h' with ⟨n', c', rfl, e⟩ | ⟨b', off', n', c', rfl, e⟩
    · simp at e
      rw [Int.ofNat_inj.1 e.1, Int.ofNat_inj.1 e.2]
    · simp at e
  · rcases datS_form h' with ⟨n', c', rfl, e⟩ | ⟨b', off', n', c', rfl, e⟩
    · simp at e
    · simp at e
      obtain ⟨e1, e2, e3, e4⟩ := e
      rw [Int.ofNat_inj.1 e1, Int.ofNat_inj.1 e2, Int.ofNat_inj.1 e3, Int.ofNat_inj.1 e4]
theorem datS_snd {v : Value} {d : DataW Unit} {ps : List MemPlace} (h : datS v = some (d, ps)) : ps = [] := by
  rcases datS_form h with ⟨n, c, rfl, e⟩ | ⟨b, off, n, c, rfl, e⟩
  · exact (Prod.mk.inj e).2
  · exact (Prod.mk.inj e).2
def zD : DataW Unit := .agg [.lit (.int .i64 (0 : Nat)), .lit (.int .i64 (0 : Nat))]
theorem zD_eq : datS (.slice none 0 0) = some (zD, []) := rfl
def IntRow (B : Nat) (w : World) (L : Nat) (v : Value) : Prop := ∃ m xs, m ≤ L ∧ w.ownsRow B 3 1 v m xs
theorem int_info : (Tryz.prog.info? 3).map (fun i => (i.zero, i.size, i.bytes)) = some (some (.int .i64 0), 1, 8) := by kernel_rfl
theorem zero_ints (w : World) : (zeroValue 96).run Tryz.prog w = .ok (.slice none 0 0) w := by
  have hi : (Tryz.prog.info? 96).map (fun i => (i.zero, i.size, i.bytes)) = some (some (.slice none 0 0), 1, 24) := by kernel_rfl
  obtain ⟨i0, h1, h2, -, -⟩ := info_parts hi
  simp [zeroValue, typeInfo, h1, h2]
/-- In a block lies a map: just these names are in it, each with a row of numbers of its own. -/
def SlMap (B : Nat) (w : World) (m nn : Nat) (S : ByteArray → Prop) (L : Nat) : Prop := ∃ D : DataW Unit, w.ownsMap Tryz.prog 9 datS m nn D ∧ (∀ s : ByteArray, Maps.has D (.string s.toList) = true ↔ S s) ∧ (∀ (s : ByteArray) (v : Value), datS v = some (D.atKey (.string s.toList) zD, []) → IntRow B w L v) ∧ (∀ (s s' : ByteArray) (v v' : Value) (g : Nat), s ≠ s' → datS v = some (D.atKey (.string s.toList) zD, []) → datS v' = some (D.atKey (.string s'.toList) zD, []) → v.ownBlock = some g → v'.ownBlock ≠ some g)
theorem SlMap.new (w : World) : SlMap w.heap.size (w.alloc (.map #[] 0)) w.heap.size 0 (fun _ => False) 0 := by
  have key : ∀ (s : ByteArray) (v : Value), datS v = some ((DataW.map [] : DataW Unit).atKey (.string s.toList) zD, []) → v = .slice none 0 0 := fun s v h => datS_inj h zD_eq
  refine ⟨.map [], World.ownsMap_made w _ _ _, fun s => by simp [Maps.has], fun s v h => ?_, fun s s' v v' g _ h _ hg => ?_⟩
  · rw [key s v h]
    exact ⟨0, [], Nat.le_refl _, World.ownsRow_nil _ _ _ _⟩
  · rw [key s v h] at hg
    cases hg
theorem SlMap.lt {B : Nat} {w : World} {m nn : Nat} {S : ByteArray → Prop} {L : Nat} (h : SlMap B w m nn S L) : m < w.heap.size := by
  obtain ⟨D, h1, -⟩ := h
  exact h1.lt
theorem SlMap.later {B : Nat} {w w' : World} {m nn : Nat} {S : ByteArray → Prop} {L : Nat} (h : SlMap B w m nn S L) (hb : Below w.heap.size w w') : SlMap B w' m nn S L := by
  have hl := h.lt
  obtain ⟨D, ⟨es, clock, h1, h2⟩, h3, h4, h5⟩ := h
  refine ⟨D, ⟨es, clock, (hb.block m hl).trans h1, h2⟩, h3, fun s v hv => ?_, h5⟩
  obtain ⟨k, xs, a, b⟩ := h4 s v hv
  exact ⟨k, xs, a, owns_block b fun g hg => hb.block g (owns_lt b g hg).1⟩
/-- A number is put behind a name's row. -/
theorem SlMap.step {B : Nat} {w : World} {m nn : Nat} {S : ByteArray → Prop} {L : Nat} (h : SlMap B w m nn S L) (hB : B ≤ w.heap.size) (hmB : B ≤ m) {s : ByteArray} (hs : s.size ≤ maxLen) (hn : nn ≤ 4000000000000000000) (hL : L ≤ 50000000) (i : Int) :
    ∃ (ov : Option Addr) (nv cv : Nat) (o' : Option Addr) (n' c' : Nat) (w4 w5 : World),
      (∀ W, W.heap[m]? = w.heap[m]? → (Instr.lookup 56 (.map (some m)) (.string s) false).run Tryz.prog W = .ok (.slice ov nv cv) W) ∧
      (Builtin.append_ #[96, 96] 96 #[.slice ov nv cv, .slice (some ⟨w.heap.size, 0, none⟩) 1 1]).run Tryz.prog (w.alloc (.cells #[.int .i64 i] 3)) = .ok (.slice o' n' c') w4 ∧
      (Instr.mapUpdate 56 (.map (some m)) (.string s) (.slice o' n' c')).run Tryz.prog w4 = .ok () w5 ∧ SlMap B w5 m (nn + 1) (fun y => S y ∨ y = s) (L + 1) ∧ Below B w w5 ∧ Below B w w4 ∧ (∀ (q : Nat) (o : Obj), w.heap[q]? = some o → (∀ cur, o ≠ .cells cur 3 (0, 0)) → w4.heap[q]? = some o) := by
  have hml := h.lt
  obtain ⟨D, hown, hhas, hrow, hap⟩ := h
  have hlook : ∀ W, W.heap[m]? = w.heap[m]? → ∃ v ps, (Instr.lookup 56 (.map (some m)) (.string s) false).run Tryz.prog W = .ok v W ∧ datS v = some (D.atKey (.string s.toList) zD, ps) := fun W hW => by
    obtain ⟨es, clock, h1, h2⟩ := hown
    have hownW : W.ownsMap Tryz.prog 9 datS m nn D := ⟨es, clock, hW.trans h1, h2⟩
    exact hownW.lookup str_keyed Tryz.underlying56 (zero_ints W) zD_eq (key_str hs)
  obtain ⟨v, ps, -, hdv⟩ := hlook w rfl
  have hps := datS_snd hdv
  subst hps
  obtain ⟨k, xs, hk, hor⟩ := hrow s v hdv
  obtain ⟨ov, cv, rfl⟩ := owns_form hor
  have hB2 : Below w.heap.size w (w.alloc (.cells #[.int .i64 i] 3)) := (Below.refl _ w).alloc (Nat.le_refl _) _
  have hor3 := owns_block (w' := w.alloc (.cells #[.int .i64 i] 3)) hor fun g hg => hB2.block g (owns_lt hor g hg).1
  obtain ⟨i0, hi0, hz0, hz1, hz2⟩ := info_parts int_info
  obtain ⟨v4, w4, hr4, hown4, hgr4, hbk4⟩ := app_run (P := Tryz.prog) Tryz.underlying96 hi0 hz0 hz1 hz2 rfl (by decide) (by decide) hor3 (Nat.le_trans hB hB2.size) (some ⟨w.heap.size, 0, none⟩) 1 1 [.int .i64 i] rfl (fun _ => ⟨w.heap.size, 0, rfl, fun j u hu => by
    rw [Nat.zero_add, cell_of (heap_alloc_new w (.cells #[.int .i64 i] 3)), List.getElem?_toArray]
    exact hu⟩) (fun u hu => by
    rw [List.mem_singleton] at hu
    rw [hu]
    rfl) (by omega) 96
  obtain ⟨o', c', rfl⟩ := owns_form hown4
  have hsz2 : (w.alloc (.cells #[.int .i64 i] 3)).heap.size = w.heap.size + 1 := by simp
  have hmg : ∀ g, (Value.slice ov k cv).ownBlock = some g → g ≠ m := fun g hg e => by
    obtain ⟨es, clock, h1, -⟩ := hown
    rcases hor.2 with ⟨hv, -⟩ | ⟨g', cap, cur, hv, -, hg', -⟩
    · rw [hv] at hg; cases hg
    · rw [hv] at hg
      have e9 : g' = g := Option.some.inj hg
      rw [e9, e, h1] at hg'
      cases hg'
  have hm4 : w4.heap[m]? = w.heap[m]? := (hgr4.block m (by omega) fun e => hmg m e.symm rfl).trans (hB2.block m hml)
  have hkeep4 : ∀ (q : Nat) (o : Obj), w.heap[q]? = some o → (∀ cur, o ≠ .cells cur 3 (0, 0)) → w4.heap[q]? = some o := fun q o hq hne => by
    have hlt := heap_lt hq
    refine (hgr4.block q (by omega) fun e => ?_).trans ((hB2.block q hlt).trans hq)
    rcases hor.2 with ⟨h9, -⟩ | ⟨g', cap, cur', h9, hb1, hg', rest⟩
    · rw [h9] at e; cases e
    · rw [h9] at e
      have e9 : q = g' := Option.some.inj e
      rw [← e9, hq] at hg'
      exact hne _ (Option.some.inj hg')
  have hown4m : w4.ownsMap Tryz.prog 9 datS m nn D := by
    obtain ⟨es, clock, h1, h2⟩ := hown
    exact ⟨es, clock, hm4.trans h1, h2⟩
  have hgB : ∀ g, (Value.slice ov k cv).ownBlock = some g → B ≤ g := fun g hg => (owns_lt hor g hg).2
  have hb4 : Below B w w4 := (hB2.mono hB).trans (below_grown hgr4 (Nat.le_trans hB hB2.size) hgB)
  have hnb : ∀ q, (Value.slice o' (k + 1) c').ownBlock = some q → q ≠ m := fun q hq e => by
    obtain ⟨es, clock, h1, -⟩ := hown4m
    rcases hown4.2 with ⟨hv, -⟩ | ⟨g', cap, cur, hv, -, hg', -⟩
    · rw [hv] at hq; cases hq
    · rw [hv] at hq
      have e9 : g' = q := Option.some.inj hq
      rw [e9, e, h1] at hg'
      cases hg'
  obtain ⟨dv, hdv4⟩ : ∃ d, datS (.slice o' (k + 1) c') = some (d, []) := by
    rcases hown4.2 with ⟨hv, -⟩ | ⟨g', cap, cur, hv, -⟩
    · rw [hv]; exact ⟨_, rfl⟩
    · rw [hv]; exact ⟨_, rfl⟩
  obtain ⟨w5, hr5, hown5, hg5⟩ := hown4m.update str_keyed Tryz.underlying56 (by unfold maxLen; omega) (key_str hs) hdv4
  have hkeep5 : ∀ (q : Nat) (cur : Array Value), w4.heap[q]? = some (.cells cur 3 (0, 0)) → w5.heap[q]? = w4.heap[q]? := fun q cur hq => hg5.block q (heap_lt hq) fun e => by
    have e9 := Option.some.inj e
    obtain ⟨es, clock, h1, -⟩ := hown4m
    rw [e9, h1] at hq
    cases hq
  have hrow5 : ∀ (v : Value) (mm : Nat) (ys : List Value), w4.ownsRow B 3 1 v mm ys → w5.ownsRow B 3 1 v mm ys := fun v mm ys hv => by
    obtain ⟨hl, hc⟩ := hv
    refine ⟨hl, ?_⟩
    rcases hc with hc | ⟨g, cap, cur, e, hb1, hg, rest⟩
    · exact .inl hc
    · exact .inr ⟨g, cap, cur, e, hb1, (hkeep5 g cur hg).trans hg, rest⟩
  have hother : ∀ (s' : ByteArray) (v' : Value), s' ≠ s → datS v' = some (D.atKey (.string s'.toList) zD, []) → ∃ mm ys, mm ≤ L ∧ w4.ownsRow B 3 1 v' mm ys := fun s' v' hne hv' => by
    obtain ⟨mm, ys, h1, h2⟩ := hrow s' v' hv'
    refine ⟨mm, ys, h1, owns_block h2 fun q hq => ?_⟩
    have hlt := (owns_lt h2 q hq).1
    exact (hgr4.block q (by omega) fun e => hap s' s v' _ q hne hv' hdv hq e.symm).trans (hB2.block q hlt)
  refine ⟨ov, k, cv, o', k + 1, c', w4, w5, fun W hW => ?_, hr4, hr5, ⟨_, hown5, fun y => ?_, fun s' v' hv' => ?_, fun s1 s2 v1 v2 q hne h1 h2 hq => ?_⟩, hb4.trans (below_grown hg5 (Nat.le_trans hB hb4.size) fun q hq => by have := Option.some.inj hq; omega), hb4, hkeep4⟩
  · obtain ⟨v', ps', hr', hd'⟩ := hlook W hW
    have hps' := datS_snd hd'
    subst hps'
    rw [datS_inj hd' hdv] at hr'
    exact hr'
  · by_cases e : y = s
    · subst e
      rw [Maps.has_put_same hown4m.isMap (str_keyed.key (key_str hs))]
      simp
    · have hne : (Lit.string y.toList) ≠ .string s.toList := fun h => e (toList_inj (by injection h))
      rw [Maps.has_put_other hne, hhas]
      simp [e]
  · by_cases e : s' = s
    · subst e
      rw [Maps.atKey_put_same hown4m.isMap (str_keyed.key (key_str hs))] at hv'
      have ev := datS_inj hv' hdv4
      rw [ev]
      exact ⟨k + 1, _, by omega, hrow5 _ _ _ hown4⟩
    · have hne : (Lit.string s'.toList) ≠ .string s.toList := fun h => e (toList_inj (by injection h))
      rw [Maps.atKey_put_other hne] at hv'
      obtain ⟨mm, ys, h1, h2⟩ := hother s' v' e hv'
      exact ⟨mm, ys, by omega, hrow5 _ _ _ h2⟩
  · have hnew : ∀ (s' : ByteArray) (v' : Value) (r : Nat), s' ≠ s → datS v' = some (D.atKey (.string s'.toList) zD, []) → v'.ownBlock = some r → (Value.slice o' (k + 1) c').ownBlock ≠ some r := fun s' v' r hn' hv' hr' e => by
      rcases hbk4 with e1 | e1
      · rw [e1] at e
        exact hap s' s v' _ r hn' hv' hdv hr' e
      · rw [e1] at e
        have e9 := Option.some.inj e
        obtain ⟨mm, ys, -, h2'⟩ := hrow s' v' hv'
        have := (owns_lt h2' r hr').1
        omega
    by_cases e1 : s1 = s
    · subst e1
      have hne2 : (Lit.string s2.toList) ≠ .string s1.toList := fun h => hne (toList_inj (by injection h)).symm
      rw [Maps.atKey_put_same hown4m.isMap (str_keyed.key (key_str hs))] at h1
      rw [Maps.atKey_put_other hne2] at h2
      rw [datS_inj h1 hdv4] at hq
      exact fun hh => hnew s2 v2 q (fun e => hne e.symm) h2 hh hq
    · have hne1 : (Lit.string s1.toList) ≠ .string s.toList := fun h => e1 (toList_inj (by injection h))
      rw [Maps.atKey_put_other hne1] at h1
      by_cases e2 : s2 = s
      · subst e2
        rw [Maps.atKey_put_same hown4m.isMap (str_keyed.key (key_str hs))] at h2
        rw [datS_inj h2 hdv4]
        exact hnew s1 v1 q e1 h1 hq
      · have hne2 : (Lit.string s2.toList) ≠ .string s.toList := fun h => e2 (toList_inj (by injection h))
        rw [Maps.atKey_put_other hne2] at h2
        exact hap s1 s2 v1 v2 q hne h1 h2 hq
end Go.Proofs.YtihjpkldefllgakGreat.Nm
