/- A definition on its way to what is bare: what is around the place that is still empty. -/
import Derived.Test.YtgeckgdmkjddpaaQ18
namespace Go.Proofs.Ytgeckgdmkjddpaa.Cp
open Go.ChangeShapes Go.WideShapes Go.ChangeAt Go.RowKit Go.Proofs.Ytgeckgdmkjddpaa.Vo Go.Proofs.Ytgeckgdmkjddpaa.Rd Go.Proofs.Ytgeckgdmkjddpaa.Br
set_option linter.unusedVariables false

theorem NewP.owe {w : World} {i h : Nat} {xs : List Tr} {v : Value} {F : List Pe} (hn : NewP i h xs v F) : Owe w (Wsr i v (xs.map (tgt i h))) [] (F.map Pe.pd) := by
  rcases hn with ⟨rfl, rfl, rfl⟩ | ⟨hne, g, rfl, rfl⟩
  · exact owe_row i _ [] fun _ => rfl
  · have h1 := owe_row (w := w) i (.slice (some ⟨g, 0, none⟩) xs.length xs.length) (xs.map (tgt i h)) fun e => absurd (List.map_eq_nil_iff.1 e) hne
    have e : one i (.slice (some ⟨g, 0, none⟩) xs.length xs.length) (xs.map (tgt i h)) = [⟨i, g, h, xs⟩].map Pe.pd := by
      unfold one
      rw [if_neg (by simpa using hne)]
      rfl
    rw [e] at h1
    exact h1
theorem NewP.wt {i h : Nat} {xs : List Tr} {v : Value} {F : List Pe} (hn : NewP i h xs v F) : wtP F = lw (wtI h i) xs := by
  rcases hn with ⟨rfl, rfl, rfl⟩ | ⟨hne, g, rfl, rfl⟩
  · rfl
  · unfold wtP
    simp [Pe.wt]
theorem exp_owe {w : World} {h : Nat} {x : Tr} {v1 v2 v3 : Value} {F1 F2 F3 : List Pe} (hs : x.s.size ≤ maxLen) (h1 : NewP 0 h x.l v1 F1) (h2 : NewP 1 h x.ds v2 F2) (h3 : NewP 2 h x.al v3 F3) :
    Owe w (Isc 0 ((brs (h + 1)).ex x) [.int .i64 x.k, .string x.s, .int .i64 x.n, v1, v2, v3]) [] ((F1 ++ F2 ++ F3).map Pe.pd) := by
  have key := owe_exp (w := w) (k := x.k) (n := x.n) hs h1.owe h2.owe h3.owe
  rw [List.map_append, List.map_append]
  exact key

/-- Six cells as an expression has them. -/
def Fx6 (cs : List Value) : Prop := ∃ k s n o1 n1 c1 o2 n2 c2 o3 n3 c3, cs = [.int .i64 k, .string s, .int .i64 n, .slice o1 n1 c1, .slice o2 n2 c2, .slice o3 n3 c3]
theorem Fx6.len {cs : List Value} (h : Fx6 cs) : cs.length = 6 := by
  obtain ⟨k, s, n, o1, n1, c1, o2, n2, c2, o3, n3, c3, rfl⟩ := h
  rfl
theorem NewP.len {i h : Nat} {xs : List Tr} {v : Value} {F : List Pe} (hn : NewP i h xs v F) : F.length ≤ 1 := by
  rcases hn with ⟨-, -, rfl⟩ | ⟨-, g, -, rfl⟩ <;> simp
/-- Where the next expression is to stand, and what is around it. -/
structure HoleAt (w : World) (g p : Nat) (arr : Array Value) (T : TypeId) (ga : Array Value) (hg hp : Nat) (ha : Array Value) (T' : TypeId) (Y : List Nat) (PW : List Pd) (F : Tr → Tr) : Prop where
  gat : w.heap[g]? = some (.cells ga T (0, 0))
  rest : ∀ k, k < p + 2 ∨ p + 7 < k → ga[k]? = arr[k]?
  gsz : ga.size = arr.size
  hat : w.heap[hg]? = some (.cells ha T' (0, 0))
  hfit : hp + 5 < ha.size
  hin : (hg = g ∧ hp = p + 2 ∧ Y = [] ∧ ga = ha) ∨ (hg ∈ Y ∧ hg ≠ g ∧ g ∉ Y)
  ctx : ∀ w' ga' ha' D P t c, w'.heap[g]? = some (.cells ga' T (0, 0)) → w'.heap[hg]? = some (.cells ha' T' (0, 0)) → ha'.size = ha.size → Fx6 c → (∀ (j : Nat) u, c[j]? = some u → ha'[hp + j]? = some u) → (∀ b ∈ Y, b ≠ hg → w'.heap[b]? = w.heap[b]?) → (hg ≠ g → ga' = ga) → Owe w' (Isc 0 t c) D P → ∃ ce, Fx6 ce ∧ (∀ (j : Nat) u, ce[j]? = some u → ga'[p + 2 + j]? = some u) ∧ Owe w' (Isc 0 (F t) ce) (Y ++ D) (P ++ PW)
theorem HoleAt.start {w : World} {g p : Nat} {arr : Array Value} {T : TypeId} (hg : w.heap[g]? = some (.cells arr T (0, 0))) (hp : p + 7 < arr.size) : HoleAt w g p arr T arr g (p + 2) arr T [] [] id := by
  refine ⟨hg, fun _ _ => rfl, rfl, hg, by omega, .inl ⟨rfl, rfl, rfl, rfl⟩, fun w' ga' ha' D P t c h1 h2 _ hl hc _ _ ho => ⟨c, hl, fun j u hj => ?_, ?_⟩⟩
  · rw [h1] at h2
    cases h2
    exact hc j u hj
  · rw [List.append_nil]
    exact ho
/-- A function, or a let, around it. -/
theorem HoleAt.put {w w' : World} {g p : Nat} {arr : Array Value} {T : TypeId} {ga : Array Value} {hg hp : Nat} {ha : Array Value} {T' : TypeId} {Y : List Nat} {PW PW2 : List Pd} {F : Tr → Tr} (h : HoleAt w g p arr T ga hg hp ha T' Y PW F) (hY : ∀ b ∈ Y, b < w.heap.size) {k : Int} {s : ByteArray} {v4 : Value} {ds : List Tr} {r : Nat} (hs : s.size ≤ maxLen) (hr1 : w.heap.size ≤ r) (hr2 : w'.heap[r]? = some (.cells ze.toArray 32 (0, 0))) (hat : w'.heap[hg]? = some (.cells (put6 ha hp (.int .i64 k) (.string s) (.int .i64 0) (.slice (some ⟨r, 0, none⟩) 1 1) v4 (.slice none 0 0)) T' (0, 0))) (hmv : Mv hg w w') (hds : ∀ w, Owe w (Wsr 1 v4 ds) [] PW2) (hv4 : ∃ o n c, v4 = .slice o n c) :
    ∃ ga', HoleAt w' g p arr T ga' r 0 ze.toArray 32 (r :: Y) (PW2 ++ PW) (fun t => F ⟨k, s, 0, [], [t], ds, []⟩) := by
  obtain ⟨o4, n4, c4, rfl⟩ := hv4
  have hgl := heap_lt h.gat
  have hhl := heap_lt h.hat
  have hrg : r ≠ g := by omega
  have hrh : r ≠ hg := by omega
  obtain ⟨e1, e2, e3⟩ := put6_get h.hfit (.int .i64 k) (.string s) (.int .i64 0) (.slice (some ⟨r, 0, none⟩) 1 1) (.slice o4 n4 c4) (.slice none 0 0)
  have hgY : g ∉ r :: Y := fun hm => by
    rcases List.mem_cons.1 hm with e | hm
    · exact hrg e.symm
    · rcases h.hin with ⟨-, -, rfl, -⟩ | ⟨-, -, h9⟩
      · cases hm
      · exact h9 hm
  have fin : ∀ (ga' : Array Value), w'.heap[g]? = some (.cells ga' T (0, 0)) → (∀ k, k < p + 2 ∨ p + 7 < k → ga'[k]? = arr[k]?) → ga'.size = arr.size → HoleAt w' g p arr T ga' r 0 ze.toArray 32 (r :: Y) (PW2 ++ PW) (fun t => F ⟨k, s, 0, [], [t], ds, []⟩) := by
    intro ga' a1 a2 a3
    refine ⟨a1, a2, a3, hr2, by simp [ze], .inr ⟨by simp, hrg, hgY⟩, fun W gb hb D P t c h1 h2 hsz hfx hc hk hgg ho => ?_⟩
    have hl := hfx.len
    have hgb := hgg hrg
    subst hgb
    have hcb : hb = c.toArray := by
      apply Array.ext_getElem?
      intro j
      rw [show c.toArray[j]? = c[j]? by simp]
      by_cases hj : j < 6
      · have h9 := hc j _ (List.getElem?_eq_getElem (by omega))
        rw [Nat.zero_add] at h9
        rw [h9, List.getElem?_eq_getElem (by omega)]
      · have h8 : hb.size = 6 := by rw [hsz]; rfl
        rw [Array.getElem?_eq_none (by omega), List.getElem?_eq_none (by omega)]
    rw [hcb] at h2
    have hn : (none : Option Addr) = none := rfl
    have q1 := owe_exp (w := W) (k := k) (n := 0) hs (owe_wrap ho h2) (hds W) (owe_row 2 (.slice none 0 0) [] fun _ => rfl)
    have q2 : Owe W (Isc 0 ⟨k, s, 0, [], [t], ds, []⟩ [.int .i64 k, .string s, .int .i64 0, .slice (some ⟨r, 0, none⟩) 1 1, .slice o4 n4 c4, .slice none 0 0]) (r :: D) (P ++ PW2) := by
      have e : one 2 (.slice none 0 0) [] = [] := rfl
      rw [e, List.append_nil, List.append_nil, List.append_nil] at q1
      exact q1
    -- the elder hole holds the new one
    have hath : W.heap[hg]? = some (.cells (put6 ha hp (.int .i64 k) (.string s) (.int .i64 0) (.slice (some ⟨r, 0, none⟩) 1 1) (.slice o4 n4 c4) (.slice none 0 0)) T' (0, 0)) := by
      rcases h.hin with ⟨b1, b2, b3, b4⟩ | ⟨b1, b2, b3⟩
      · subst b1
        rw [a1] at hat
        rw [h1, hat]
      · exact (hk hg (by simp [b1]) (fun e => hrh e.symm)).trans hat
    obtain ⟨ce, c1, c2, c3⟩ := h.ctx W gb _ (r :: D) (P ++ PW2) _ _ h1 hath e3 ⟨_, _, _, _, _, _, _, _, _, _, _, _, rfl⟩ e1 (fun b hb hbh => by
      have h8 := hY b hb
      exact (hk b (by simp [hb]) (by omega)).trans (hmv.block b ⟨h8, hbh⟩)) (fun hne => by
      have h7 : w'.heap[g]? = w.heap[g]? := hmv.block g ⟨hgl, fun e => hne e.symm⟩
      rw [a1, h.gat] at h7
      cases h7
      rfl) q2
    refine ⟨ce, c1, c2, c3.perm ?_ ?_⟩
    · rw [List.append_assoc]
    · have : (Y ++ r :: D).Perm (r :: (Y ++ D)) := List.perm_middle
      exact this
  rcases h.hin with ⟨b1, b2, b3, b4⟩ | ⟨b1, b2, b3⟩
  · subst b1 b2 b4
    have hT : T' = T := by
      have h9 := h.hat
      rw [h.gat] at h9
      simpa using h9.symm
    subst hT
    refine ⟨_, fin _ hat (fun k hk => (e2 k (by omega)).trans (h.rest k hk)) (e3.trans h.gsz)⟩
  · refine ⟨ga, fin ga ((hmv.block g ⟨hgl, fun e => b2 e.symm⟩).trans h.gat) h.rest h.gsz⟩
theorem HoleAt.keep {w w' : World} {g p : Nat} {arr : Array Value} {T : TypeId} {ga : Array Value} {hg hp : Nat} {ha : Array Value} {T' : TypeId} {Y : List Nat} {PW : List Pd} {F : Tr → Tr} (h : HoleAt w g p arr T ga hg hp ha T' Y PW F) (k1 : w'.heap[g]? = w.heap[g]?) (k2 : ∀ b ∈ Y, w'.heap[b]? = w.heap[b]?) : HoleAt w' g p arr T ga hg hp ha T' Y PW F := by
  have kh : w'.heap[hg]? = w.heap[hg]? := by
    rcases h.hin with ⟨rfl, -, -, -⟩ | ⟨b1, -, -⟩
    · exact k1
    · exact k2 _ b1
  exact ⟨k1.trans h.gat, h.rest, h.gsz, kh.trans h.hat, h.hfit, h.hin, fun W ga' ha' D P t c h1 h2 h3 h4 h5 h6 => h.ctx W ga' ha' D P t c h1 h2 h3 h4 h5 fun b hb hne => (h6 b hb hne).trans (k2 b hb)⟩
theorem lams_snoc : ∀ (l : List ByteArray) (s : ByteArray) (t : Tr), lams (l ++ [s]) t = lams l ⟨5, s, 0, [], [t], [], []⟩
  | [], _, _ => rfl
  | a :: r, s, t => by
    show (⟨5, a, 0, [], [lams (r ++ [s]) t], [], []⟩ : Tr) = ⟨5, a, 0, [], [lams r _], [], []⟩
    rw [lams_snoc r s t]
section
variable {K : Nat → Prop} {w0 w : World} {C M : Nat} {E D A : List Pe} {N : List Ne} {X X' : List Nat}
theorem blks_perm {vE vD vA vN : Value} (h : X.Perm X') : (blks C M vE vD vA vN E D A N X).Perm (blks C M vE vD vA vN E D A N X') := by
  rw [blks_split C M vE vD vA vN E D A N X, blks_split C M vE vD vA vN E D A N X']
  exact h.append_left _
theorem Mem.perm (h : Mem K w0 C M E D A N X w) (hp : X.Perm X') : Mem K w0 C M E D A N X' w := by
  obtain ⟨a, b, c, d, h⟩ := h
  exact ⟨a, b, c, d, h.frame (Below.refl _ _) (fun _ _ => rfl) ⟨(blks_perm hp).nodup_iff.1 h.apart.1, fun b hb => h.apart.2 b ((blks_perm hp).mem_iff.2 hb)⟩⟩
theorem Mem.drop {b : Nat} (h : Mem K w0 C M E D A N (b :: X) w) : Mem K w0 C M E D A N X w := by
  obtain ⟨a, e, c, d, h⟩ := h
  have hp : (blks C M a e c d E D A N (b :: X)).Perm (b :: blks C M a e c d E D A N X) := by
    rw [blks_split C M a e c d E D A N (b :: X), blks_split C M a e c d E D A N X]
    exact List.perm_middle
  exact ⟨a, e, c, d, h.frame (Below.refl _ _) (fun _ _ => rfl) ⟨(List.nodup_cons.1 (hp.nodup_iff.1 h.apart.1)).2, fun z hz => h.apart.2 z (hp.mem_iff.2 (List.mem_cons_of_mem _ hz))⟩⟩
theorem Mem.x_nodup (h : Mem K w0 C M E D A N X w) : X.Nodup := by
  obtain ⟨a, b, c, d, h⟩ := h
  have h1 := h.apart.1
  rw [blks_split] at h1
  exact (List.nodup_append.1 h1).2.1
end
/-- Nine cells set, from p on. -/
def put9 (arr : Array Value) (p : Nat) (b0 b1 a0 a1 a2 a3 a4 a5 b8 : Value) : Array Value := ((((((((arr.set! p b0).set! (p + 1) b1).set! (p + 2) a0).set! (p + 3) a1).set! (p + 4) a2).set! (p + 5) a3).set! (p + 6) a4).set! (p + 7) a5).set! (p + 8) b8
def set9 (w : World) (g p : Nat) (b0 b1 a0 a1 a2 a3 a4 a5 b8 : Value) : World := ((((((((w.setCell ⟨g, p, none⟩ b0).setCell ⟨g, p + 1, none⟩ b1).setCell ⟨g, p + 2, none⟩ a0).setCell ⟨g, p + 3, none⟩ a1).setCell ⟨g, p + 4, none⟩ a2).setCell ⟨g, p + 5, none⟩ a3).setCell ⟨g, p + 6, none⟩ a4).setCell ⟨g, p + 7, none⟩ a5).setCell ⟨g, p + 8, none⟩ b8
theorem set9_at {w : World} {g p : Nat} {arr : Array Value} {T : TypeId} (h : w.heap[g]? = some (.cells arr T (0, 0))) (b0 b1 a0 a1 a2 a3 a4 a5 b8 : Value) : (set9 w g p b0 b1 a0 a1 a2 a3 a4 a5 b8).heap[g]? = some (.cells (put9 arr p b0 b1 a0 a1 a2 a3 a4 a5 b8) T (0, 0)) :=
  heap_set_same _ (heap_set_same _ (heap_set_same _ (heap_set_same _ (heap_set_same _ (heap_set_same _ (heap_set_same _ (heap_set_same _ (heap_set_same _ h))))))))
theorem set9_keeps (w : World) (g p : Nat) (b0 b1 a0 a1 a2 a3 a4 a5 b8 : Value) : Keeps (fun k => k ≠ g) w (set9 w g p b0 b1 a0 a1 a2 a3 a4 a5 b8) := by
  unfold set9
  exact ((((((((keeps_set w g p b0 (fun h => h rfl)).trans (keeps_set _ g _ b1 (fun h => h rfl))).trans (keeps_set _ g _ a0 (fun h => h rfl))).trans (keeps_set _ g _ a1 (fun h => h rfl))).trans (keeps_set _ g _ a2 (fun h => h rfl))).trans (keeps_set _ g _ a3 (fun h => h rfl))).trans (keeps_set _ g _ a4 (fun h => h rfl))).trans (keeps_set _ g _ a5 (fun h => h rfl))).trans (keeps_set _ g _ b8 (fun h => h rfl))
theorem put9_get {arr : Array Value} {p : Nat} (hp : p + 8 < arr.size) (b0 b1 a0 a1 a2 a3 a4 a5 b8 : Value) : (∀ (j : Nat) u, [b0, b1, a0, a1, a2, a3, a4, a5, b8][j]? = some u → (put9 arr p b0 b1 a0 a1 a2 a3 a4 a5 b8)[p + j]? = some u) ∧ (∀ k, k < p ∨ p + 8 < k → (put9 arr p b0 b1 a0 a1 a2 a3 a4 a5 b8)[k]? = arr[k]?) ∧ (put9 arr p b0 b1 a0 a1 a2 a3 a4 a5 b8).size = arr.size := by
  unfold put9
  simp only [Array.set!_eq_setIfInBounds]
  refine ⟨fun j u hj => ?_, fun k hk => ?_, by simp⟩
  · have hj6 : j < 9 := (List.getElem?_eq_some_iff.1 hj).1
    have hc : j = 0 ∨ j = 1 ∨ j = 2 ∨ j = 3 ∨ j = 4 ∨ j = 5 ∨ j = 6 ∨ j = 7 ∨ j = 8 := by omega
    rcases hc with rfl | rfl | rfl | rfl | rfl | rfl | rfl | rfl | rfl <;> simp at hj <;> subst hj <;> simp [Array.getElem?_setIfInBounds] <;> omega
  · simp only [Array.getElem?_setIfInBounds]
    rw [if_neg (by omega), if_neg (by omega), if_neg (by omega), if_neg (by omega), if_neg (by omega), if_neg (by omega), if_neg (by omega), if_neg (by omega), if_neg (by omega)]
theorem Mem.set6 {K : Nat → Prop} {w0 w : World} {C M : Nat} {E D A : List Pe} {N : List Ne} {X : List Nat} (h : Mem K w0 C M E D A N X w) {g : Nat} (hg : g ∈ X) (p : Nat) (a0 a1 a2 a3 a4 a5 : Value) : Mem K w0 C M E D A N X (set6 w g p a0 a1 a2 a3 a4 a5) := (((((h.set hg).set hg).set hg).set hg).set hg).set hg
theorem Mem.set9 {K : Nat → Prop} {w0 w : World} {C M : Nat} {E D A : List Pe} {N : List Ne} {X : List Nat} (h : Mem K w0 C M E D A N X w) {g : Nat} (hg : g ∈ X) (p : Nat) (b0 b1 a0 a1 a2 a3 a4 a5 b8 : Value) : Mem K w0 C M E D A N X (set9 w g p b0 b1 a0 a1 a2 a3 a4 a5 b8) := ((((((((h.set hg).set hg).set hg).set hg).set hg).set hg).set hg).set hg).set hg
/-- Other blocks than g alone have changed, and new ones. -/
theorem Mem.mv {K : Nat → Prop} {w0 w w' : World} {C M : Nat} {E D A : List Pe} {N : List Ne} {X : List Nat} (h : Mem K w0 C M E D A N X w) {g : Nat} (hg : g ∈ X) (hv : Mv g w w') : Mem K w0 C M E D A N X w' := by
  obtain ⟨a, b, c, d, h⟩ := h
  have hn := h.apart.1
  rw [blks_split] at hn
  have hne : ∀ z ∈ blks C M a b c d E D A N [], w'.heap[z]? = w.heap[z]? := fun z hz => hv.block z ⟨(h.apart.2 z (by rw [blks_split]; exact List.mem_append_left _ hz)).2, fun e => (List.nodup_append.1 hn).2.2 z hz g hg e⟩
  have hg0 := h.apart.2 g (by rw [blks_split]; exact List.mem_append_right _ hg)
  exact ⟨a, b, c, d, h.frame ⟨hv.os, hv.tape, hv.output, hv.size, fun z hz => hv.block z ⟨by have := h.old.size; omega, by omega⟩⟩ hne (h.apart.wide (Nat.le_refl _) hv.size)⟩
/-- So, and one block more is made. -/
theorem Mem.mvNew {K : Nat → Prop} {w0 w w' : World} {C M : Nat} {E D A : List Pe} {N : List Ne} {X : List Nat} (h : Mem K w0 C M E D A N X w) {g : Nat} (hg : g ∈ X) (hv : Mv g w w') {r : Nat} (h1 : w.heap.size ≤ r) (h2 : r < w'.heap.size) : Mem K w0 C M E D A N (r :: X) w' := by
  have hm := h.mv hg hv
  obtain ⟨a, b, c, d, h⟩ := h
  have hn := h.apart.1
  rw [blks_split] at hn
  have hne : ∀ z ∈ blks C M a b c d E D A N [], w'.heap[z]? = w.heap[z]? := fun z hz => hv.block z ⟨(h.apart.2 z (by rw [blks_split]; exact List.mem_append_left _ hz)).2, fun e => (List.nodup_append.1 hn).2.2 z hz g hg e⟩
  have hg0 := h.apart.2 g (by rw [blks_split]; exact List.mem_append_right _ hg)
  have h' := h.frame ⟨hv.os, hv.tape, hv.output, hv.size, fun z hz => hv.block z ⟨by have := h.old.size; omega, by omega⟩⟩ hne (h.apart.wide (Nat.le_refl _) hv.size)
  refine ⟨a, b, c, d, h'.add (fun hm => ?_) (Nat.le_trans h.old.size h1) h2⟩
  have := (h.apart.2 r hm).2
  omega
theorem set3_six {arr : Array Value} {p : Nat} (hp : p + 5 < arr.size) {a0 a1 a2 : Value} (h0 : arr[p]? = some a0) (h1 : arr[p + 1]? = some a1) (h2 : arr[p + 2]? = some a2) (v1 v2 v3 : Value) : (∀ (j : Nat) u, [a0, a1, a2, v1, v2, v3][j]? = some u → (set3 arr p v1 v2 v3)[p + j]? = some u) ∧ (∀ k, k < p ∨ p + 5 < k → (set3 arr p v1 v2 v3)[k]? = arr[k]?) ∧ (set3 arr p v1 v2 v3).size = arr.size := by
  unfold set3
  simp only [Array.set!_eq_setIfInBounds]
  refine ⟨fun j u hj => ?_, fun k hk => ?_, by simp⟩
  · have hj6 : j < 6 := (List.getElem?_eq_some_iff.1 hj).1
    have hc : j = 0 ∨ j = 1 ∨ j = 2 ∨ j = 3 ∨ j = 4 ∨ j = 5 := by omega
    simp only [Array.getElem?_setIfInBounds]
    rcases hc with rfl | rfl | rfl | rfl | rfl | rfl
    · rw [if_neg (by omega), if_neg (by omega), if_neg (by omega)]; simp at hj; subst hj; simpa using h0
    · rw [if_neg (by omega), if_neg (by omega), if_neg (by omega)]; simp at hj; subst hj; exact h1
    · rw [if_neg (by omega), if_neg (by omega), if_neg (by omega)]; simp at hj; subst hj; exact h2
    · simp at hj; subst hj; simp; omega
    · simp at hj; subst hj; simp; omega
    · simp at hj; subst hj; simp; omega
  · simp only [Array.getElem?_setIfInBounds]
    rw [if_neg (by omega), if_neg (by omega), if_neg (by omega)]
theorem perm4 {α : Type} (a b c d : List α) : ((a ++ b ++ c) ++ d).Perm (a ++ (d ++ b) ++ c) := by
  simp only [List.append_assoc]
  refine List.Perm.append_left a ?_
  rw [← List.append_assoc]
  exact List.perm_append_comm
end Go.Proofs.Ytgeckgdmkjddpaa.Cp
