/- Made of ZXL, ZXM. -/
import Derived.Test.YtgeckgdmkjddpaaZXK
namespace Go.Proofs.Ytgeckgdmkjddpaa.Cp
open Go.ChangeShapes Go.WideShapes Go.ChangeAt Go.RowKit Go.Proofs.Ytgeckgdmkjddpaa.Vo Go.Proofs.Ytgeckgdmkjddpaa.Rd Go.Proofs.Ytgeckgdmkjddpaa.Br
set_option linter.unusedVariables false

/-- What a call does with an element of kind i. -/
def EltOk (i : Nat) (fn : FuncId) : Prop := ∀ {K : Nat → Prop} {w0 w : World} {C M : Nat} {E D A : List Pe} {N : List Ne} {X : List Nat} (hm : Mem K w0 C M E D A N X w) {g p : Nat} (hg : g ∈ X) {arr : Array Value} {T : TypeId} (hbk : w.heap[g]? = some (.cells arr T (0, 0))) (h : Nat) (x : Tr) (cs : List Value) (hr : rdI K w0 h i x cs) (hcl : cs.length = lenK i) (hat : ∀ (j : Nat) u, cs[j]? = some u → arr[p + j]? = some u) (hw : wtI h i x ≤ 1048576) (hE : E.length ≤ 2000000) (hD : D.length ≤ 2000000) (hA : A.length ≤ 2000000) (hN : N.length ≤ 2000000),
    Calls Try.prog fn #[.pointer (some ⟨C, 0, none⟩), .pointer (some ⟨g, p, none⟩), .bool false] w fun r w' => r = .returned (.tuple #[]) ∧ ∃ (Y : List Nat) (cs' : List Value) (arr' : Array Value) (FE FD FA : List Pe) (FN : List Ne), cs'.length = lenK i ∧ Mem K w0 C M (E ++ FE) (D ++ FD) (A ++ FA) (N ++ FN) (Y ++ X) w' ∧ w'.heap[g]? = some (.cells arr' T (0, 0)) ∧ (∀ (j : Nat) u, cs'[j]? = some u → arr'[p + j]? = some u) ∧ (∀ k, k < p ∨ p + lenK i ≤ k → arr'[k]? = arr[k]?) ∧ arr'.size = arr.size ∧ Keeps (fun b => b < w0.heap.size ∨ (b ∈ X ∧ b ≠ g)) w w' ∧ Owe w' (Isc i (tgt i h x) cs') (Y ++ FN.map Ne.g) ((FE ++ FD ++ FA).map Pe.pd) ∧ wtP (FE ++ FD ++ FA) + FN.length ≤ wtI h i x

theorem elt_0 : EltOk 0 56 := by
  intro K w0 w C M E D A N X hm g p hg arr T hbk h x cs hr hcl hat hw hE hD hA hN
  cases h with
  | zero => exact hr.elim
  | succ h =>
    have hr' : (reads K w0 (h + 1)).ex x cs := hr
    have hwx : (wts (h + 1)).ex x = x.s.size + lw (wts h).ex x.l + lw (wts h).de x.ds + lw (wts h).al x.al := rfl
    have hw' : (wts (h + 1)).ex x ≤ 1048576 := hw
    obtain ⟨o1, c1, o2, c2, o3, c3, hcs⟩ := ex_form hr'
    have q0 := hat 0 (.int .i64 x.k) (by rw [hcs]; rfl)
    have q1 := hat 1 (.string x.s) (by rw [hcs]; rfl)
    have q2 := hat 2 (.int .i64 x.n) (by rw [hcs]; rfl)
    have q5 := hat 5 (.slice o3 x.al.length c3) (by rw [hcs]; rfl)
    have hp5 := (Array.getElem?_eq_some_iff.1 q5).1
    refine (exp_any hm hg hbk h x cs hr' hat hw' (by omega) (by omega) (by omega)).mono ?_
    rintro r w' ⟨rfl, v1, v2, v3, F1, F2, F3, h1, h2, h3, hm', hg', hk'⟩
    obtain ⟨s1, s2, s3⟩ := set3_six hp5 (by simpa using q0) q1 q2 v1 v2 v3
    refine ⟨rfl, [], [.int .i64 x.k, .string x.s, .int .i64 x.n, v1, v2, v3], _, F1, F2, F3, [], rfl, by rw [List.append_nil]; exact hm', hg', s1, fun k hk => s2 k (by have e : lenK 0 = 6 := rfl; omega), s3, hk', ?_, ?_⟩
    · exact exp_owe (w := w') (by unfold maxLen; omega) h1 h2 h3
    · show wtP (F1 ++ F2 ++ F3) + 0 ≤ (wts (h + 1)).ex x
      rw [wtP_app, wtP_app]
      have a1 : wtP F1 = lw (wts h).ex x.l := h1.wt
      have a2 : wtP F2 = lw (wts h).de x.ds := h2.wt
      have a3 : wtP F3 = lw (wts h).al x.al := h3.wt
      omega
theorem elt_1 : EltOk 1 30 := by
  intro K w0 w C M E D A N X hm g p hg arr T hbk h x cs hr hcl hat hw hE hD hA hN
  cases h with
  | zero => exact hr.elim
  | succ h =>
    obtain ⟨-, -, -, e, o1, c1, ce, o2, c2, hxl, rfl, -, f1, f2, r1, lce, rce, r2⟩ := hr
    cases h with
    | zero => exact rce.elim
    | succ h =>
      have hwx : (wts (h + 1 + 1)).de x = x.s.size + sw x.ss + (x.l.map (wts (h + 1)).ex).sum + lw (wts (h + 1)).de x.ds := rfl
      have hw' : (wts (h + 1 + 1)).de x ≤ 1048576 := hw
      have hsum : (x.l.map (wts (h + 1)).ex).sum = (wts (h + 1)).ex e := by rw [hxl]; simp
      refine (dec_any hm hg hbk h x e o1 c1 o2 c2 ce lce rce r1 f1.2 r2 f2.2 hat (by omega) (by omega) (by omega) (by omega) (by omega) (by omega) (by omega)).mono ?_
      rintro r w' ⟨rfl, Y, ce', arr', FE, FD, FA, hl', hm', hg', ha', hb', hs', hk', ho', hw2⟩
      have htg : tgt 1 (h + 1 + 1) x = tDec x.s [] (lams x.ss (wlet (x.ds.map (tgt 1 (h + 1))) ((brs (h + 1)).ex e))) [] := by
        have h9 : (brs (h + 1 + 1)).de x = lams x.ss (wlet (x.ds.map (tgt 1 (h + 1))) ((x.l.map (brs (h + 1)).ex).headD x)) := rfl
        show tDec x.s [] ((brs (h + 1 + 1)).de x) [] = _
        rw [h9, hxl]
        rfl
      refine ⟨rfl, Y, [.string x.s, .slice none 0 0] ++ ce' ++ [.slice none 0 0], arr', FE, FD, FA, [], by simp [hl']; rfl, by rw [List.append_nil]; exact hm', hg', ha', fun k hk => hb' k (by have e : lenK 1 = 9 := rfl; omega), hs', hk', ?_, ?_⟩
      · rw [htg]
        have h9 := owe_dec (s := x.s) (by unfold maxLen; omega) ho'
        simpa using h9
      · show wtP (FE ++ FD ++ FA) + 0 ≤ (wts (h + 1 + 1)).de x
        omega
theorem NewN.row {w : World} {ss : List ByteArray} {v : Value} {F : List Ne} (hn : NewN ss v F) (hsz : ∀ s ∈ ss, s.size ≤ 1048576) (hm : ∀ p ∈ F, NeOk w p) : RowS w strS 9 1 v ss (F.map Ne.g) := by
  rcases hn with ⟨rfl, rfl, rfl⟩ | ⟨hne, g, rfl, rfl⟩
  · exact RowS.nil _ _ _ _
  · obtain ⟨a1, a2, a4, a3⟩ := hm _ (List.mem_singleton.2 rfl)
    have e1 : (ss.map fun s => [Value.string s]).flatten = ss.map Value.string := by
      clear hne a1 a2 a3 a4 hsz hm
      induction ss with
      | nil => rfl
      | cons x r ih => rw [List.map_cons, List.flatten_cons, ih]; rfl
    have hr := Row.lit (w := w) (E := 9) (sz := 1) (g := g) (ss.map fun s => [Value.string s]) (fun c hc => by
      obtain ⟨s, -, rfl⟩ := List.mem_map.1 hc
      rfl) (by rw [e1]; exact a3) (by rw [List.length_map]; simp only at a2; omega)
    rw [List.length_map] at hr
    refine ⟨by simp only at a2; omega, _, ss.map fun _ => [], hr, ?_, by simp [ownL, Value.ownBlock]⟩
    clear a1 a2 a3 hr e1 hne hm
    induction ss with
    | nil => trivial
    | cons x r ih =>
      simp only [List.map_cons]
      exact ⟨⟨rfl, by have := hsz x (by simp); unfold maxLen; omega, rfl⟩, ih (fun s hs => hsz s (by simp [hs])) fun s hs => a4 s (by simp [hs])⟩
theorem NewN.len {ss : List ByteArray} {v : Value} {F : List Ne} (hn : NewN ss v F) : F.length ≤ ss.length := by
  rcases hn with ⟨rfl, rfl, rfl⟩ | ⟨hne, g, rfl, rfl⟩
  · exact Nat.zero_le _
  · have := List.length_pos_iff.2 hne
    show 1 ≤ ss.length
    omega
theorem elt_2 : EltOk 2 59 := by
  intro K w0 w C M E D A N X hm g p hg arr T hbk h x cs hr hcl hat hw hE hD hA hN
  cases h with
  | zero => exact hr.elim
  | succ h =>
    obtain ⟨-, -, -, -, e, o1, c1, ce, hxl, rfl, -, f1, r1, lce, rce⟩ := hr
    cases h with
    | zero => exact rce.elim
    | succ h =>
      have hwx : (wts (h + 1 + 1)).al x = x.s.size + sw x.ss + (x.l.map (wts (h + 1)).ex).sum := rfl
      have hw' : (wts (h + 1 + 1)).al x ≤ 1048576 := hw
      have hsum : (x.l.map (wts (h + 1)).ex).sum = (wts (h + 1)).ex e := by rw [hxl]; simp
      have hwe : (wts (h + 1)).ex e = e.s.size + lw (wts h).ex e.l + lw (wts h).de e.ds + lw (wts h).al e.al := rfl
      have hssl : x.ss.length ≤ sw x.ss := by unfold sw; omega
      obtain ⟨p1, d1, p2, d2, p3, d3, rfl⟩ := ex_form rce
      have q0 := hat 0 (.string x.s) rfl
      have q1 := hat 1 (.slice o1 x.ss.length c1) rfl
      have q2 := hat 2 (.int .i64 e.k) rfl
      have q3 := hat 3 (.string e.s) rfl
      have q4 := hat 4 (.int .i64 e.n) rfl
      have q7 := hat 7 (.slice p3 e.al.length d3) rfl
      have hp7 := (Array.getElem?_eq_some_iff.1 q7).1
      rw [Nat.add_zero] at q0
      refine (alt_any hm hg hbk h x e o1 c1 _ rce r1 f1.2 hat (by omega) (by omega) (by omega) (by omega) (by omega) (by omega) (by omega)).mono ?_
      rintro r w' ⟨rfl, v, v1, v2, v3, F, F1, F2, F3, hn, h1, h2, h3, hm', hg', hk'⟩
      have hset : ∀ k, k ≠ p + 1 → (arr.set! (p + 1) v)[k]? = arr[k]? := fun k hk => by
        rw [Array.set!_eq_setIfInBounds, Array.getElem?_setIfInBounds, if_neg (fun e => hk e.symm)]
      obtain ⟨s1, s2, s3⟩ := set3_six (arr := arr.set! (p + 1) v) (p := p + 2) (by simp; omega) (a0 := .int .i64 e.k) (a1 := .string e.s) (a2 := .int .i64 e.n) ((hset _ (by omega)).trans q2) ((hset _ (by omega)).trans q3) ((hset _ (by omega)).trans q4) v1 v2 v3
      have htg : tgt 2 (h + 1 + 1) x = tAlt x.s x.ss ((brs (h + 1)).ex e) := by
        have h9 : (brs (h + 1 + 1)).al x = tAlt x.s x.ss ((x.l.map (brs (h + 1)).ex).headD x) := rfl
        show (brs (h + 1 + 1)).al x = _
        rw [h9, hxl]
        rfl
      have hnk : ∀ q ∈ F, NeOk w' q := fun q hq => by
        obtain ⟨_, _, _, _, h9⟩ := hm'
        exact h9.pN q (List.mem_append_right _ hq)
      refine ⟨rfl, [], [.string x.s, v] ++ [.int .i64 e.k, .string e.s, .int .i64 e.n, v1, v2, v3], _, F1, F2, F3, F, rfl, hm', hg', fun j u hj => ?_, fun k hk => ?_, by rw [s3]; simp, hk', ?_, ?_⟩
      · have hj8 : j < 8 := (List.getElem?_eq_some_iff.1 hj).1
        by_cases hj2 : j < 2
        · rw [s2 (p + j) (by omega)]
          have hc : j = 0 ∨ j = 1 := by omega
          rcases hc with rfl | rfl
          · simp at hj
            subst hj
            rw [hset (p + 0) (by omega)]
            exact q0
          · simp at hj
            subst hj
            rw [Array.set!_eq_setIfInBounds, Array.getElem?_setIfInBounds, if_pos rfl, if_pos (by omega)]
        · rw [List.getElem?_append_right (by simp; omega)] at hj
          have h9 := s1 (j - 2) u (by simpa using hj)
          rw [show p + 2 + (j - 2) = p + j by omega] at h9
          exact h9
      · have e : lenK 2 = 8 := rfl
        rw [s2 k (by omega), hset k (by omega)]
      · rw [htg]
        have h9 := owe_alt (s := x.s) (by unfold maxLen; omega) (hn.row (w := w') (sw_size (n := 1048576) (by omega)) hnk) (exp_owe (w := w') (x := e) (by unfold maxLen; omega) h1 h2 h3)
        rw [List.append_nil] at h9
        exact h9
      · show wtP (F1 ++ F2 ++ F3) + F.length ≤ (wts (h + 1 + 1)).al x
        rw [wtP_app, wtP_app]
        have a1 : wtP F1 = lw (wts h).ex e.l := h1.wt
        have a2 : wtP F2 = lw (wts h).de e.ds := h2.wt
        have a3 : wtP F3 = lw (wts h).al e.al := h3.wt
        have a4 := hn.len
        omega
end Go.Proofs.Ytgeckgdmkjddpaa.Cp
namespace Go.Proofs.Ytgeckgdmkjddpaa.Cp
open Go.ChangeShapes Go.WideShapes Go.ChangeAt Go.RowKit Go.Proofs.Ytgeckgdmkjddpaa.Vo Go.Proofs.Ytgeckgdmkjddpaa.Rd Go.Proofs.Ytgeckgdmkjddpaa.Br
set_option linter.unusedVariables false

theorem least_at {α : Type} (G : Nat → α → Prop) : ∃ mu : α → Nat, ∀ w m, G m w → G (mu w) w ∧ mu w ≤ m := by
  have h : ∀ w, ∃ n, ∀ m, G m w → G n w ∧ n ≤ m := by
    intro w
    by_cases he : ∃ m, G m w
    · obtain ⟨m, hm⟩ := he
      induction m using Nat.strongRecOn with
      | ind m ih =>
        by_cases hl : ∃ k, k < m ∧ G k w
        · obtain ⟨k, hk, hg⟩ := hl
          exact ih k hk hg
        · refine ⟨m, fun k hk => ⟨hm, ?_⟩⟩
          rcases Nat.lt_or_ge k m with h1 | h1
          · exact absurd ⟨k, h1, hk⟩ hl
          · exact h1
    · exact ⟨0, fun m hm => absurd ⟨m, hm⟩ he⟩
  obtain ⟨f, hf⟩ := Classical.axiomOfChoice h
  exact ⟨f, fun w m hm => hf w m hm⟩
/-- A row that is told cell by cell. -/
theorem arr_flat {arr : Array Value} {css : List (List Value)} {sz : Nat} (h0 : 0 < sz) (hs : arr.size = css.length * sz) (hl : ∀ c ∈ css, c.length = sz) (hc : ∀ (j : Nat) c (q : Nat) u, css[j]? = some c → c[q]? = some u → arr[j * sz + q]? = some u) : arr = css.flatten.toArray := by
  have hf := flat_len css hl
  apply Array.ext_getElem?
  intro m
  rw [show css.flatten.toArray[m]? = css.flatten[m]? by simp]
  by_cases hm : m < css.length * sz
  · have hi : m / sz < css.length := (Nat.div_lt_iff_lt_mul h0).2 hm
    have hj : m % sz < sz := Nat.mod_lt _ h0
    have hcl := hl _ (List.getElem_mem hi)
    obtain ⟨u, hu⟩ : ∃ u, (css[m / sz]'hi)[m % sz]? = some u := ⟨(css[m / sz]'hi)[m % sz]'(by omega), List.getElem?_eq_getElem _⟩
    have e2 : m / sz * sz + m % sz = m := by rw [Nat.mul_comm]; exact Nat.div_add_mod m sz
    have h1 := hc _ _ _ u (List.getElem?_eq_getElem hi) hu
    have h2 := flat_get css hl _ _ _ u (List.getElem?_eq_getElem hi) hu
    rw [e2] at h1 h2
    rw [h1, h2]
  · rw [Array.getElem?_eq_none (by omega), List.getElem?_eq_none (by omega)]
theorem perm6 {α : Type} (a b c a' b' c' : List α) : ((a ++ b ++ c) ++ (a' ++ b' ++ c')).Perm ((a ++ a') ++ (b ++ b') ++ (c ++ c')) := by
  have h1 : ∀ x y z t : List α, ((x ++ y) ++ (z ++ t)).Perm ((x ++ z) ++ (y ++ t)) := fun x y z t => by
    rw [List.append_assoc, List.append_assoc]
    refine List.Perm.append_left x ?_
    rw [← List.append_assoc, ← List.append_assoc]
    exact List.Perm.append_right t List.perm_append_comm
  exact (h1 (a ++ b) c (a' ++ b') c').trans ((h1 a b a' b').append_right _)
/-- What calls do to the rows that a whole rests on. -/
theorem Owe.held {K : Nat → Prop} {w0 w w' : World} {C M C' M' : Nat} {E D A E' D' A' : List Pe} {N N' : List Ne} {X X' : List Nat} {G : World → List Nat → Prop} {P : List Pd} (h : Owe w G (X ++ N.map Ne.g) P) (hm : ∀ q ∈ N, NeOk w q) (hm' : ∀ q ∈ N, NeOk w' q) (hk : ∀ b ∈ X, w'.heap[b]? = w.heap[b]?) : Owe w' G (X ++ N.map Ne.g) P := h.keep fun b hb => by
  rcases List.mem_append.1 hb with hb | hb
  · exact hk b hb
  · obtain ⟨q, hq, rfl⟩ := List.mem_map.1 hb
    rw [(hm q hq).2.2.2, (hm' q hq).2.2.2]
theorem Mem.ne {K : Nat → Prop} {w0 w : World} {C M : Nat} {E D A : List Pe} {N : List Ne} {X : List Nat} (h : Mem K w0 C M E D A N X w) : ∀ q ∈ N, NeOk w q := by
  obtain ⟨_, _, _, _, h⟩ := h
  exact h.pN
theorem perm_yy (Y F Y' F' : List Nat) : ((Y ++ F) ++ (Y' ++ F')).Perm ((Y' ++ Y) ++ (F ++ F')) := List.perm_iff_count.2 fun b => by
  simp only [List.count_append]
  omega
theorem perm_xx (X F : List Nat) (g : Nat) (Y F' : List Nat) : ((X ++ F) ++ (g :: (Y ++ F'))).Perm ((Y ++ (g :: X)) ++ (F ++ F')) := List.perm_iff_count.2 fun b => by
  simp only [List.count_append, List.count_cons]
  omega
theorem take_le {α : Type} (f : α → Nat) (l : List α) (i : Nat) : ((l.take i).map f).sum ≤ (l.map f).sum := by
  have h : (l.map f).sum = ((l.take i).map f).sum + ((l.drop i).map f).sum := by rw [← List.sum_append, ← List.map_append, List.take_append_drop]
  omega
theorem take_sum {α : Type} (f : α → Nat) (l : List α) (i : Nat) (x : α) (h : l[i]? = some x) : ((l.take (i + 1)).map f).sum = ((l.take i).map f).sum + f x := by
  rw [List.take_add_one, h]
  simp

/-- The last row is taken away; its block is the caller's. -/
theorem pop_0 {K : Nat → Prop} {w0 w : World} {C M : Nat} {E D A : List Pe} {N : List Ne} {X : List Nat} {vE vD vA vN v' : Value} {p : Pe} (h : MemV K w0 C M (E ++ [p]) D A N X w vE vD vA vN) (hrow : Row w 126 2 v' (E.map Pe.cells)) (hbk : v'.ownBlock = vE.ownBlock) :
    MemV K w0 C M E D A N (p.g :: X) (w.setCell ⟨C, 0, none⟩ v') v' vD vA vN ∧ Keeps (fun b => b ≠ C) w (w.setCell ⟨C, 0, none⟩ v') := by
  have eo : ownL v' = ownL vE := by unfold ownL; rw [hbk]
  have e2 : (blks C M vE vD vA vN (E ++ [p]) D A N X).Perm (blks C M v' vD vA vN E D A N (p.g :: X)) := List.perm_iff_count.2 fun b => by
    simp [blks, List.count_append, List.count_cons, eo]
    try omega
  have hn := e2.nodup_iff.1 h.apart.1
  have hC : C ∉ (blks C M v' vD vA vN E D A N (p.g :: X)).tail := by
    have h9 := hn
    unfold blks at h9 ⊢
    rw [List.tail_cons]
    exact (List.nodup_cons.1 h9).1
  have kk : ∀ b ∈ (blks C M v' vD vA vN E D A N (p.g :: X)).tail, (w.setCell ⟨C, 0, none⟩ v').heap[b]? = w.heap[b]? := fun b hb => heap_set_other _ fun e => hC (e ▸ hb)
  have hs : (w.setCell ⟨C, 0, none⟩ v').heap.size = w.heap.size := by simp
  have hC0 := (h.apart.2 C (by simp [blks])).1
  have hkeep := keeps_set (K := fun b => b ≠ C) w C 0 v' (fun h => h rfl)
  refine ⟨⟨?_, hrow.frame (fun b hb => kk b (by simp [blks, hb])), h.rD.frame (fun b hb => kk b (by simp [blks, hb])), h.rA.frame (fun b hb => kk b (by simp [blks, hb])), h.rN.frame (fun b hb => kk b (by simp [blks, hb])), h.txs.keep (kk M (by simp [blks])), fun q hq => ⟨(h.pE q (List.mem_append_left _ hq)).1, (h.pE q (List.mem_append_left _ hq)).2.keep (kk _ (by have h9 : q.g ∈ E.map Pe.g := List.mem_map_of_mem hq; simp only [blks, List.tail_cons, List.mem_cons, List.mem_append]; simp [h9]))⟩, fun q hq => ⟨(h.pD q hq).1, (h.pD q hq).2.keep (kk _ (by have h9 : q.g ∈ D.map Pe.g := List.mem_map_of_mem hq; simp only [blks, List.tail_cons, List.mem_cons, List.mem_append]; simp [h9]))⟩, fun q hq => ⟨(h.pA q hq).1, (h.pA q hq).2.keep (kk _ (by have h9 : q.g ∈ A.map Pe.g := List.mem_map_of_mem hq; simp only [blks, List.tail_cons, List.mem_cons, List.mem_append]; simp [h9]))⟩, fun q hq => (h.pN q hq).keep (kk _ (by have h9 : q.g ∈ N.map Ne.g := List.mem_map_of_mem hq; simp only [blks, List.tail_cons, List.mem_cons, List.mem_append]; simp [h9])), ⟨hn, fun b hb => by rw [hs]; exact h.apart.2 b (e2.mem_iff.2 hb)⟩, h.old.trans ⟨hkeep.os, hkeep.tape, hkeep.output, hkeep.size, fun b hb => hkeep.block b (by omega)⟩⟩, hkeep⟩
  have h9 := heap_set_same (j := 0) v' h.box
  simpa [ecv] using h9

/-- The last row is taken away; its block is the caller's. -/
theorem pop_1 {K : Nat → Prop} {w0 w : World} {C M : Nat} {E D A : List Pe} {N : List Ne} {X : List Nat} {vE vD vA vN v' : Value} {p : Pe} (h : MemV K w0 C M E (D ++ [p]) A N X w vE vD vA vN) (hrow : Row w 147 2 v' (D.map Pe.cells)) (hbk : v'.ownBlock = vD.ownBlock) :
    MemV K w0 C M E D A N (p.g :: X) (w.setCell ⟨C, 2, none⟩ v') vE v' vA vN ∧ Keeps (fun b => b ≠ C) w (w.setCell ⟨C, 2, none⟩ v') := by
  have eo : ownL v' = ownL vD := by unfold ownL; rw [hbk]
  have e2 : (blks C M vE vD vA vN E (D ++ [p]) A N X).Perm (blks C M vE v' vA vN E D A N (p.g :: X)) := List.perm_iff_count.2 fun b => by
    simp [blks, List.count_append, List.count_cons, eo]
    try omega
  have hn := e2.nodup_iff.1 h.apart.1
  have hC : C ∉ (blks C M vE v' vA vN E D A N (p.g :: X)).tail := by
    have h9 := hn
    unfold blks at h9 ⊢
    rw [List.tail_cons]
    exact (List.nodup_cons.1 h9).1
  have kk : ∀ b ∈ (blks C M vE v' vA vN E D A N (p.g :: X)).tail, (w.setCell ⟨C, 2, none⟩ v').heap[b]? = w.heap[b]? := fun b hb => heap_set_other _ fun e => hC (e ▸ hb)
  have hs : (w.setCell ⟨C, 2, none⟩ v').heap.size = w.heap.size := by simp
  have hC0 := (h.apart.2 C (by simp [blks])).1
  have hkeep := keeps_set (K := fun b => b ≠ C) w C 2 v' (fun h => h rfl)
  refine ⟨⟨?_, h.rE.frame (fun b hb => kk b (by simp [blks, hb])), hrow.frame (fun b hb => kk b (by simp [blks, hb])), h.rA.frame (fun b hb => kk b (by simp [blks, hb])), h.rN.frame (fun b hb => kk b (by simp [blks, hb])), h.txs.keep (kk M (by simp [blks])), fun q hq => ⟨(h.pE q hq).1, (h.pE q hq).2.keep (kk _ (by have h9 : q.g ∈ E.map Pe.g := List.mem_map_of_mem hq; simp only [blks, List.tail_cons, List.mem_cons, List.mem_append]; simp [h9]))⟩, fun q hq => ⟨(h.pD q (List.mem_append_left _ hq)).1, (h.pD q (List.mem_append_left _ hq)).2.keep (kk _ (by have h9 : q.g ∈ D.map Pe.g := List.mem_map_of_mem hq; simp only [blks, List.tail_cons, List.mem_cons, List.mem_append]; simp [h9]))⟩, fun q hq => ⟨(h.pA q hq).1, (h.pA q hq).2.keep (kk _ (by have h9 : q.g ∈ A.map Pe.g := List.mem_map_of_mem hq; simp only [blks, List.tail_cons, List.mem_cons, List.mem_append]; simp [h9]))⟩, fun q hq => (h.pN q hq).keep (kk _ (by have h9 : q.g ∈ N.map Ne.g := List.mem_map_of_mem hq; simp only [blks, List.tail_cons, List.mem_cons, List.mem_append]; simp [h9])), ⟨hn, fun b hb => by rw [hs]; exact h.apart.2 b (e2.mem_iff.2 hb)⟩, h.old.trans ⟨hkeep.os, hkeep.tape, hkeep.output, hkeep.size, fun b hb => hkeep.block b (by omega)⟩⟩, hkeep⟩
  have h9 := heap_set_same (j := 2) v' h.box
  simpa [ecv] using h9

/-- The last row is taken away; its block is the caller's. -/
theorem pop_2 {K : Nat → Prop} {w0 w : World} {C M : Nat} {E D A : List Pe} {N : List Ne} {X : List Nat} {vE vD vA vN v' : Value} {p : Pe} (h : MemV K w0 C M E D (A ++ [p]) N X w vE vD vA vN) (hrow : Row w 159 2 v' (A.map Pe.cells)) (hbk : v'.ownBlock = vA.ownBlock) :
    MemV K w0 C M E D A N (p.g :: X) (w.setCell ⟨C, 4, none⟩ v') vE vD v' vN ∧ Keeps (fun b => b ≠ C) w (w.setCell ⟨C, 4, none⟩ v') := by
  have eo : ownL v' = ownL vA := by unfold ownL; rw [hbk]
  have e2 : (blks C M vE vD vA vN E D (A ++ [p]) N X).Perm (blks C M vE vD v' vN E D A N (p.g :: X)) := List.perm_iff_count.2 fun b => by
    simp [blks, List.count_append, List.count_cons, eo]
    try omega
  have hn := e2.nodup_iff.1 h.apart.1
  have hC : C ∉ (blks C M vE vD v' vN E D A N (p.g :: X)).tail := by
    have h9 := hn
    unfold blks at h9 ⊢
    rw [List.tail_cons]
    exact (List.nodup_cons.1 h9).1
  have kk : ∀ b ∈ (blks C M vE vD v' vN E D A N (p.g :: X)).tail, (w.setCell ⟨C, 4, none⟩ v').heap[b]? = w.heap[b]? := fun b hb => heap_set_other _ fun e => hC (e ▸ hb)
  have hs : (w.setCell ⟨C, 4, none⟩ v').heap.size = w.heap.size := by simp
  have hC0 := (h.apart.2 C (by simp [blks])).1
  have hkeep := keeps_set (K := fun b => b ≠ C) w C 4 v' (fun h => h rfl)
  refine ⟨⟨?_, h.rE.frame (fun b hb => kk b (by simp [blks, hb])), h.rD.frame (fun b hb => kk b (by simp [blks, hb])), hrow.frame (fun b hb => kk b (by simp [blks, hb])), h.rN.frame (fun b hb => kk b (by simp [blks, hb])), h.txs.keep (kk M (by simp [blks])), fun q hq => ⟨(h.pE q hq).1, (h.pE q hq).2.keep (kk _ (by have h9 : q.g ∈ E.map Pe.g := List.mem_map_of_mem hq; simp only [blks, List.tail_cons, List.mem_cons, List.mem_append]; simp [h9]))⟩, fun q hq => ⟨(h.pD q hq).1, (h.pD q hq).2.keep (kk _ (by have h9 : q.g ∈ D.map Pe.g := List.mem_map_of_mem hq; simp only [blks, List.tail_cons, List.mem_cons, List.mem_append]; simp [h9]))⟩, fun q hq => ⟨(h.pA q (List.mem_append_left _ hq)).1, (h.pA q (List.mem_append_left _ hq)).2.keep (kk _ (by have h9 : q.g ∈ A.map Pe.g := List.mem_map_of_mem hq; simp only [blks, List.tail_cons, List.mem_cons, List.mem_append]; simp [h9]))⟩, fun q hq => (h.pN q hq).keep (kk _ (by have h9 : q.g ∈ N.map Ne.g := List.mem_map_of_mem hq; simp only [blks, List.tail_cons, List.mem_cons, List.mem_append]; simp [h9])), ⟨hn, fun b hb => by rw [hs]; exact h.apart.2 b (e2.mem_iff.2 hb)⟩, h.old.trans ⟨hkeep.os, hkeep.tape, hkeep.output, hkeep.size, fun b hb => hkeep.block b (by omega)⟩⟩, hkeep⟩
  have h9 := heap_set_same (j := 4) v' h.box
  simpa [ecv] using h9

/-- The last row is taken away; its block is the caller's. -/
theorem pop_3 {K : Nat → Prop} {w0 w : World} {C M : Nat} {E D A : List Pe} {N : List Ne} {X : List Nat} {vE vD vA vN v' : Value} {p : Ne} (h : MemV K w0 C M E D A (N ++ [p]) X w vE vD vA vN) (hrow : Row w 164 2 v' (N.map Ne.cells)) (hbk : v'.ownBlock = vN.ownBlock) :
    MemV K w0 C M E D A N (p.g :: X) (w.setCell ⟨C, 6, none⟩ v') vE vD vA v' ∧ Keeps (fun b => b ≠ C) w (w.setCell ⟨C, 6, none⟩ v') := by
  have eo : ownL v' = ownL vN := by unfold ownL; rw [hbk]
  have e2 : (blks C M vE vD vA vN E D A (N ++ [p]) X).Perm (blks C M vE vD vA v' E D A N (p.g :: X)) := List.perm_iff_count.2 fun b => by
    simp [blks, List.count_append, List.count_cons, eo]
    try omega
  have hn := e2.nodup_iff.1 h.apart.1
  have hC : C ∉ (blks C M vE vD vA v' E D A N (p.g :: X)).tail := by
    have h9 := hn
    unfold blks at h9 ⊢
    rw [List.tail_cons]
    exact (List.nodup_cons.1 h9).1
  have kk : ∀ b ∈ (blks C M vE vD vA v' E D A N (p.g :: X)).tail, (w.setCell ⟨C, 6, none⟩ v').heap[b]? = w.heap[b]? := fun b hb => heap_set_other _ fun e => hC (e ▸ hb)
  have hs : (w.setCell ⟨C, 6, none⟩ v').heap.size = w.heap.size := by simp
  have hC0 := (h.apart.2 C (by simp [blks])).1
  have hkeep := keeps_set (K := fun b => b ≠ C) w C 6 v' (fun h => h rfl)
  refine ⟨⟨?_, h.rE.frame (fun b hb => kk b (by simp [blks, hb])), h.rD.frame (fun b hb => kk b (by simp [blks, hb])), h.rA.frame (fun b hb => kk b (by simp [blks, hb])), hrow.frame (fun b hb => kk b (by simp [blks, hb])), h.txs.keep (kk M (by simp [blks])), fun q hq => ⟨(h.pE q hq).1, (h.pE q hq).2.keep (kk _ (by have h9 : q.g ∈ E.map Pe.g := List.mem_map_of_mem hq; simp only [blks, List.tail_cons, List.mem_cons, List.mem_append]; simp [h9]))⟩, fun q hq => ⟨(h.pD q hq).1, (h.pD q hq).2.keep (kk _ (by have h9 : q.g ∈ D.map Pe.g := List.mem_map_of_mem hq; simp only [blks, List.tail_cons, List.mem_cons, List.mem_append]; simp [h9]))⟩, fun q hq => ⟨(h.pA q hq).1, (h.pA q hq).2.keep (kk _ (by have h9 : q.g ∈ A.map Pe.g := List.mem_map_of_mem hq; simp only [blks, List.tail_cons, List.mem_cons, List.mem_append]; simp [h9]))⟩, fun q hq => (h.pN q (List.mem_append_left _ hq)).keep (kk _ (by have h9 : q.g ∈ N.map Ne.g := List.mem_map_of_mem hq; simp only [blks, List.tail_cons, List.mem_cons, List.mem_append]; simp [h9])), ⟨hn, fun b hb => by rw [hs]; exact h.apart.2 b (e2.mem_iff.2 hb)⟩, h.old.trans ⟨hkeep.os, hkeep.tape, hkeep.output, hkeep.size, fun b hb => hkeep.block b (by omega)⟩⟩, hkeep⟩
  have h9 := heap_set_same (j := 6) v' h.box
  simpa [ecv] using h9
end Go.Proofs.Ytgeckgdmkjddpaa.Cp
