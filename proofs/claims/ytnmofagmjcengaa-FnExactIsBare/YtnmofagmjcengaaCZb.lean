/- The library's AppendSeq, over whatever iterator keeps its word. -/
import Derived.Test.YtnmofagmjcengaaCZa
import Derived.Test.YtnmofagmjcengaaCU
import Derived.Test.YtnmofagmjcengaaCWa
import Derived.Maps.OwnIn
namespace Go.Proofs.Ytnmofagmjcengaa.Br
open Go.ChangeShapes Go.WideShapes Go.ChangeAt Go.RowKit Go.Shelf Go.Proofs.Ytnmofagmjcengaa.It
attribute [local go_sem] Oper.semAt_some
set_option linter.unusedVariables false

/-- What a call that owns a row leaves of the memory. -/
structure Grew (own : Option Nat) (w w' : World) : Prop where
  os : w'.os = w.os
  tape : w'.tape = w.tape
  output : w'.output = w.output
  size : w.heap.size ≤ w'.heap.size
  block : ∀ k, k < w.heap.size → own ≠ some k → w'.heap[k]? = w.heap[k]?
theorem Grew.of {own : Option Nat} {w w' : World} (h : Below w.heap.size w w') : Grew own w w' := ⟨h.os, h.tape, h.output, h.size, fun k hk _ => h.block k hk⟩
def ListedRow (B : Nat) (W : World) (v : Value) (l : List Value) : Prop := ORow 52 B W v l
structure AppI (w : World) (B : Nat) (vl : Value) (L0 : List Value) (xs s : List Ls) (Pr : Nat → Prop) (W : World) (v : Value) : Prop where
  box : W.heap[w.heap.size]? = some (.cells #[v] 68 (0, 0))
  row : ListedRow B W v (L0 ++ s.map valL)
  own : ∀ g, v.ownBlock = some g → (vl.ownBlock = some g ∨ w.heap.size + 3 ≤ g) ∧ ¬ Pr g
  npr : ¬ Pr w.heap.size
  grew : Grew vl.ownBlock w W
  pre : s <+: xs

set_option maxRecDepth 100000 in
set_option maxHeartbeats 4000000 in
theorem appendSeq_any {gf : Nat} {lb : Array Value} (w : World) (vl : Value) (L0 : List Value) (B : Nat) (hrow : ListedRow B w vl L0) (hB : B ≤ w.heap.size) (K : Nat → Prop) (hK : ∀ k, K k → k < w.heap.size) (hKo : ∀ g, vl.ownBlock = some g → ¬ K g) (xs : List Ls)
    (hseq : SeqOf Try.prog gf lb (fun x => #[valL x]) K (fun pre y => pre ++ [y] <+: xs) (fun ys => ys = xs) w) (eg : ∀ args w, (callFunc gf args).run Try.prog w = .ok (.enter gf args) w) (hlen : L0.length + xs.length ≤ 10000000) :
    Calls Try.prog 27 #[vl, .func (.func gf) #[] lb] w fun e w' => ∃ v, e = .returned v ∧ ListedRow B w' v (L0 ++ xs.map valL) ∧ (∀ g, v.ownBlock = some g → vl.ownBlock = some g ∨ w.heap.size ≤ g) ∧ Grew vl.ownBlock w w' := by
  have hvo : ∀ g, vl.ownBlock = some g → g < w.heap.size := fun g hg => by
    obtain ⟨-, cur, hc⟩ := ORow.own hrow hg
    exact heap_lt hc
  obtain ⟨ov, cv, rfl, -, -⟩ := ORow.form hrow
  refine (callsIn_wide (n := 3)).1 ?_
  refine callsIn_of_wp_marks Try.func27 rfl trivial ?_ rfl
  simp only [Try.ntmps27, List.size_toArray, List.length_cons, List.length_nil, Nat.reduceAdd, Nat.reduceSub, Array.replicate_succ, Array.replicate_zero, List.push_toArray, List.append_toArray, List.nil_append, List.cons_append]
  gi_wp2
  have hsz : (w.alloc (.cells #[.slice ov L0.length cv] 68)).heap.size = w.heap.size + 1 := by simp
  have hseq' : SeqOf Try.prog gf lb (fun x : Ls => #[.iface (tyOf x.i) (.slice x.o x.n x.c)]) K (fun pre y => pre ++ [y] <+: xs) (fun ys => ys = xs) w := hseq
  refine loop_of (gf := gf) (lb := lb) rfl eg hseq' ((Below.refl _ w).alloc (Nat.le_refl _) _) (fun _ => rfl) (fun k hk => by have := hK k hk; rw [hsz]; omega)
    (fun s Pr W => ∃ v, AppI w B (.slice ov L0.length cv) L0 xs s Pr W v) (fun _ _ _ => False) ?stab ?but (fun _ _ _ _ _ h => h) ?start
    (fun x => { tmps := #[.slice ov L0.length cv, .func (.func gf) #[] lb, .pointer (some ⟨w.heap.size, 0, none⟩), undef, .slice none 0 0, .iface (tyOf x.i) (.slice x.o x.n x.c), .func (.func gf) #[] lb, .iface (tyOf x.i) (.slice x.o x.n x.c), undef, undef, undef, undef, undef], defers := [] }) ?assign ?body ?done ?stop
  case stab =>
    rintro s Pr Pr' A D hc hN hp ⟨v, h⟩
    rw [hsz] at hc hN
    have hown : ∀ g, v.ownBlock = some g → g < A.heap.size := fun g hg => by
      obtain ⟨-, cur, hc⟩ := ORow.own h.row hg
      exact heap_lt hc
    refine ⟨v, (hc.below.block _ (by omega)).trans h.box, ORow.keep h.row fun g hg => hc.rest g (hown g hg) (h.own g hg).2, fun g hg => ⟨(h.own g hg).1, fun hq => ?_⟩, fun hq => ?_, ⟨hc.below.os.trans h.grew.os, hc.below.tape.trans h.grew.tape, hc.below.output.trans h.grew.output, Nat.le_trans h.grew.size hc.below.size, fun k hk ho => (hc.below.block k (by omega)).trans (h.grew.block k hk ho)⟩, h.pre⟩
    · rcases hp g hq with h1 | h1
      · exact (h.own g hg).2 h1
      · have := hown g hg
        omega
    · rcases hp _ hq with h1 | h1
      · exact h.npr h1
      · omega
  case but =>
    rintro s Pr A D hb ⟨v, h⟩
    rw [hsz] at hb
    refine ⟨v, (hb.block _ (by omega)).trans h.box, ORow.keep h.row fun g hg => hb.block g fun e => ?_, h.own, h.npr, ⟨hb.os.trans h.grew.os, hb.tape.trans h.grew.tape, hb.output.trans h.grew.output, by rw [hb.size]; exact h.grew.size, fun k hk ho => (hb.block k (by omega)).trans (h.grew.block k hk ho)⟩, h.pre⟩
    rcases (h.own g hg).1 with h1 | h1
    · have := hvo g h1
      omega
    · omega
  case start =>
    intro W hW hs
    rw [hsz] at hW hs
    have hbw : Below w.heap.size w W := ((Below.refl _ w).alloc (Nat.le_refl _) _).trans (hW.mono (by omega))
    refine ⟨.slice ov L0.length cv, (hW.block _ (by omega)).trans (heap_alloc_new w _), ?_, fun g hg => ⟨.inl hg, hKo g hg⟩, fun hk => by have := hK _ hk; omega, Grew.of hbw, List.nil_prefix⟩
    rw [List.map_nil, List.append_nil]
    exact ORow.keep hrow fun g hg => hbw.block g (hvo g hg)
  case assign =>
    intro x W Kn hKn
    gi_wp2
    exact hKn
  case body =>
    rintro pre x Pr W ⟨v, h⟩ hok hN hPl hl hd n1 n2
    rw [hsz] at hN hl n1 n2
    obtain ⟨r, hl⟩ := hl
    rw [hsz] at hd
    have hbx := cell_of h.box 0
    have hfx := frozen_of h.box 0
    simp only [List.getElem?_toArray, List.getElem?_cons_zero] at hbx
    have hplen : pre.length + 1 ≤ xs.length := by have := hok.length_le; simpa using this
    have hown : ∀ g, v.ownBlock = some g → g < W.heap.size := fun g hg => by
      obtain ⟨-, cur, hc⟩ := ORow.own h.row hg
      exact heap_lt hc
    have hrw : ListedRow B (W.alloc (.cells #[.iface (tyOf x.i) (.slice x.o x.n x.c)] 52)) v (L0 ++ pre.map valL) := ORow.keep h.row fun g hg => Below.heap_alloc W _ g (hown g hg)
    have hown2 : ∀ g, v.ownBlock = some g → g ≠ w.heap.size ∧ g ≠ w.heap.size + 1 ∧ g ≠ w.heap.size + 2 := fun g hg => by
      rcases (h.own g hg).1 with h1 | h1
      · have := hvo g h1
        omega
      · omega
    have hnot : ∀ k, (k = w.heap.size ∨ k = w.heap.size + 1 ∨ k = w.heap.size + 2) → some k ≠ v.ownBlock := fun k hk e => by
      have := hown2 k e.symm
      omega
    have HNOT := hide hnot
    have HOWN2 := hide hown2
    have HRW := hide hrw
    have HI := hide h
    have HOK := hide hok
    have HL := hide hl
    have HD := hide hd
    have HOWN := hide hown
    clear h hok hl hd hown hrw hnot hown2
    gi_wp2_with (gi_at_builtin; refine wpListIn_append_own_at _ rfl _ _ 68 rfl B 52 _ .nilIface 1 16 Try.underlying68 rfl rfl rfl rfl rfl (by decide) v _ (L0 ++ pre.map valL) rfl HRW.out ⟨W.heap.size, 0, none⟩ 1 1 [.iface (tyOf x.i) (.slice x.o x.n x.c)] rfl rfl (fun j y hj => by cases j with | zero => (simp at hj; subst hj; exact cell_of (heap_alloc_new W _) 0) | succ j => simp at hj) (fun y hy => by rw [List.mem_singleton.1 hy]; rfl) (by unfold maxLen; simp; omega) (by simp; omega) (Nat.le_trans (Nat.le_trans hB HI.out.grew.size) (by simp)) ?_; intro v2 w2 h2 h3 h4 h5; rw [List.length_append, List.length_map] at h2; obtain ⟨o2, c2, rfl⟩ := owns_form h2; have HR := hide h2; have HG := hide h3; have HOB := hide h5; have x2 := (World.cell?_of_block (a := ⟨w.heap.size, 0, none⟩) ((h3.block w.heap.size (by simp; omega) (HNOT.out _ (.inl rfl))).trans (Below.heap_alloc W _ _ (by omega)))).trans hbx; have f2 := (World.frozen?_of_block (a := ⟨w.heap.size, 0, none⟩) ((h3.block w.heap.size (by simp; omega) (HNOT.out _ (.inl rfl))).trans (Below.heap_alloc W _ _ (by omega)))).trans hfx; clear h2 h3 h4 h5)
    generalize hV2 : Value.slice o2 (L0.length + pre.length + 1) c2 = v2 at *
    have hgb : ∀ k, k < W.heap.size → some k ≠ v.ownBlock → (w2.setCell ⟨w.heap.size, 0, none⟩ v2).heap[k]? = if k = w.heap.size then some (.cells #[v2] 68 (0, 0)) else W.heap[k]? := by
      intro k hk ho
      have hkb := (HG.out.block k (by simp; omega) ho).trans (Below.heap_alloc W _ _ hk)
      by_cases e : k = w.heap.size
      · subst e
        rw [if_pos rfl]
        exact heap_set_same v2 (hkb.trans HI.out.box)
      · rw [if_neg e]
        exact (heap_set_other v2 e).trans hkb
    have hsz2 : W.heap.size + 1 ≤ w2.heap.size := by have := HG.out.size; simpa using this
    refine ⟨⟨?_, ?_⟩, ⟨v2, ?_, ?_, fun g hg => ?_, HI.out.npr, ?_, HOK.out⟩, ?_, fun k hk hlk => ?_⟩
    · rw [hsz, hgb _ (by omega) (HNOT.out _ (.inr (.inl rfl))), if_neg (by omega)]
    · rw [hsz, hgb _ (by omega) (HNOT.out _ (.inr (.inr rfl))), if_neg (by omega)]
    · rw [hgb _ (by omega) (HNOT.out _ (.inl rfl)), if_pos rfl]
    · have h9 : ListedRow B w2 v2 (L0 ++ (pre ++ [x]).map valL) := by
        have h8 := HR.out
        unfold ListedRow ORow
        rw [List.map_append, ← List.append_assoc, List.map_cons, List.map_nil]
        rw [show (L0 ++ pre.map valL ++ [valL x]).length = L0.length + pre.length + 1 by simp; omega]
        exact h8
      refine ORow.keep h9 fun g hg => heap_set_other v2 fun e => ?_
      rcases HOB.out with h1 | h1
      · rw [h1] at hg
        exact (HOWN2.out g hg).1 e
      · rw [h1] at hg
        have h2 := Option.some.inj hg
        simp at h2
        omega
    · rcases HOB.out with h1 | h1
      · rw [h1] at hg
        exact HI.out.own g hg
      · rw [h1] at hg
        have h2 := Option.some.inj hg
        simp at h2
        refine ⟨.inr (by omega), fun hq => ?_⟩
        have := hPl _ hq
        omega
    · have h1 := HI.out.grew
      have h2 := HG.out
      refine ⟨?_, ?_, ?_, ?_, fun k hk ho => ?_⟩
      · show w2.os = w.os
        exact h2.os.trans h1.os
      · show w2.tape = w.tape
        exact h2.tape.trans h1.tape
      · show w2.output = w.output
        exact h2.output.trans h1.output
      · simp
        have := h1.size
        omega
      · rw [hgb k (Nat.lt_of_lt_of_le hk h1.size) (fun e => ?_), if_neg (by omega)]
        · exact h1.block k hk ho
        · rcases (HI.out.own k e.symm).1 with h3 | h3
          · exact ho h3
          · omega
    · simp
      omega
    · rw [hgb k hlk (fun e => (HI.out.own k e.symm).2 hk), if_neg (fun e => HI.out.npr (by rw [← e]; exact hk))]
  case done =>
    rintro ys W rfl ⟨v, h⟩ hd
    rw [hsz] at hd
    have hbx := cell_of h.box 0
    have hfx := frozen_of h.box 0
    simp only [List.getElem?_toArray, List.getElem?_cons_zero] at hbx
    have HI := hide h
    have HD := hide hd
    clear h hd
    gi_wp2
    have hsz' := hsz
    refine ⟨by simp, .inl ⟨_, _, rfl, run_takeDeferred (by rw [hsz]; exact HD.out), _, results_tmp rfl _ _ _, v, rfl, ?_, fun g hg => ?_, ?_⟩⟩
    · refine ORow.keep HI.out.row fun g hg => World.putObj_heap_other fun e => ?_
      rw [hsz] at e
      rcases (HI.out.own g hg).1 with h1 | h1
      · have := hvo g h1
        omega
      · omega
    · rcases (HI.out.own g hg).1 with h1 | h1
      · exact .inl h1
      · exact .inr (by omega)
    · have h1 := HI.out.grew
      refine ⟨h1.os, h1.tape, h1.output, ?_, fun k hk ho => ?_⟩
      · simpa [World.putObj] using h1.size
      · exact (World.putObj_heap_other (by rw [hsz]; omega)).trans (h1.block k hk ho)
  case stop =>
    rintro c pre W h _
    exact h.elim
end Go.Proofs.Ytnmofagmjcengaa.Br
