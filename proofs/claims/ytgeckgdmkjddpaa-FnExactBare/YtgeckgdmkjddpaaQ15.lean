/- Made of ZWE, ZWF. -/
import Derived.Test.YtgeckgdmkjddpaaQ13
import Derived.Test.YtgeckgdmkjddpaaQ14
import Derived.Maps.OwnIn
namespace Go.Proofs.Ytgeckgdmkjddpaa.Hd
open Go.ChangeShapes Go.WideShapes Go.ChangeAt Go.RowKit Go.Shelf Go.Proofs.Ytgeckgdmkjddpaa.It Go.Proofs.Ytgeckgdmkjddpaa.Vo Go.Proofs.Ytgeckgdmkjddpaa.Br
attribute [local go_sem] Oper.semAt_some
set_option linter.unusedVariables false

/-- What a call that owns a row leaves of the memory. -/
structure Grew (own : Option Nat) (w w' : World) : Prop where
  os : w'.os = w.os
  tape : w'.tape = w.tape
  output : w'.output = w.output
  size : w.heap.size ≤ w'.heap.size
  block : ∀ k, k < w.heap.size → own ≠ some k → w'.heap[k]? = w.heap[k]?
theorem Grew.of {own : Option Nat} {w w' : World} (h : Below w.heap.size w w') : Grew own w w' := ⟨h.os, h.tape, h.output, h.size, fun k hk _ => h.block k hk⟩
def RlRow (B : Nat) (W : World) (v : Value) (l : List Value) : Prop := ORow 111 B W v l
structure AppI (w : World) (m B : Nat) (vl : Value) (L0 : List Value) (bs : List Pk) (xs s : List Ls) (Pr : Nat → Prop) (W : World) (v : Value) : Prop where
  box0 : W.heap[w.heap.size]? = some (.cells #[.map (some m)] 151 (0, 0))
  box : W.heap[w.heap.size + 1]? = some (.cells #[v] 104 (0, 0))
  row : RlRow B W v (L0 ++ (fresh bs s).map valL)
  own : ∀ g, v.ownBlock = some g → (vl.ownBlock = some g ∨ w.heap.size + 4 ≤ g) ∧ ¬ Pr g
  npr0 : ¬ Pr w.heap.size
  npr : ¬ Pr (w.heap.size + 1)
  grew : Grew vl.ownBlock w W
  pre : s <+: xs
theorem AppI.later {w : World} {m B : Nat} {vl : Value} {L0 : List Value} {bs : List Pk} {xs s : List Ls} {Pr : Nat → Prop} {W W2 : World} {v : Value} (h : AppI w m B vl L0 bs xs s Pr W v) (hb : Below W.heap.size W W2) : AppI w m B vl L0 bs xs s Pr W2 v :=
  ⟨(hb.block _ (heap_lt h.box0)).trans h.box0, (hb.block _ (heap_lt h.box)).trans h.box, ORow.keep h.row fun g hg => hb.block g (by obtain ⟨-, cur, hc⟩ := ORow.own h.row hg; exact heap_lt hc), h.own, h.npr0, h.npr, ⟨hb.os.trans h.grew.os, hb.tape.trans h.grew.tape, hb.output.trans h.grew.output, Nat.le_trans h.grew.size hb.size, fun k hk ho => (hb.block k (Nat.lt_of_lt_of_le hk h.grew.size)).trans (h.grew.block k hk ho)⟩, h.pre⟩
theorem fresh_len (bs : List Pk) (l : List Ls) : (fresh bs l).length ≤ l.length := List.length_filter_le _ _

set_option maxRecDepth 100000 in
set_option maxHeartbeats 8000000 in
theorem appendUnless_any {gf : Nat} {lb : Array Value} (w : World) (m : Nat) (bs : List Pk) (hset : SetAt w m kvP bs) (vl : Value) (L0 : List Value) (B : Nat) (hrow : RlRow B w vl L0) (hmo : vl.ownBlock ≠ some m) (hB : B ≤ w.heap.size) (K : Nat → Prop) (hK : ∀ k, K k → k < w.heap.size) (hKo : ∀ g, vl.ownBlock = some g → ¬ K g) (xs : List Ls)
    (hseq : SeqOf Try.prog gf lb (fun x => #[valL x]) K (fun pre y => pre ++ [y] <+: xs) (fun ys => ys = xs) w) (eg : ∀ args w, (callFunc gf args).run Try.prog w = .ok (.enter gf args) w) (hlen : L0.length + xs.length ≤ 10000000)
    (hxs : ∀ x ∈ xs, ∃ xb xo, x.o = some ⟨xb, xo, none⟩ ∧ x.n ≠ 0 ∧ x.n ≤ maxLen ∧ x.n ≤ x.c ∧ PlainAt w ⟨xb, xo, none⟩ ∧ some xb ≠ vl.ownBlock ∧ xb ≠ m ∧ x.i < 3) (hbs : ∀ b ∈ bs, b.1 < 3 ∧ PlainAt w b.2.1 ∧ some b.2.1.block ≠ vl.ownBlock ∧ b.2.1.block ≠ m) :
    Calls Try.prog 71 #[.map (some m), vl, .func (.func gf) #[] lb] w fun e w' => ∃ v, e = .returned v ∧ RlRow B w' v (L0 ++ (fresh bs xs).map valL) ∧ (∀ g, v.ownBlock = some g → vl.ownBlock = some g ∨ w.heap.size ≤ g) ∧ Grew vl.ownBlock w w' := by
  have hml := hset.lt
  have hvo : ∀ g, vl.ownBlock = some g → g < w.heap.size := fun g hg => by
    obtain ⟨-, cur, hc⟩ := ORow.own hrow hg
    exact heap_lt hc
  obtain ⟨ov, cv, rfl, -, -⟩ := ORow.form hrow
  refine (callsIn_wide (n := 3)).1 ?_
  refine callsIn_of_wp_marks Try.func71 rfl trivial ?_ rfl
  simp only [Try.ntmps71, List.size_toArray, List.length_cons, List.length_nil, Nat.reduceAdd, Nat.reduceSub, Array.replicate_succ, Array.replicate_zero, List.push_toArray, List.append_toArray, List.nil_append, List.cons_append]
  gi_wp2
  have hsz : ((w.alloc (.cells #[.map (some m)] 151)).alloc (.cells #[.slice ov L0.length cv] 104)).heap.size = w.heap.size + 2 := by simp
  have hbw0 : Below w.heap.size w ((w.alloc (.cells #[.map (some m)] 151)).alloc (.cells #[.slice ov L0.length cv] 104)) := ((Below.refl _ w).alloc (Nat.le_refl _) _).alloc (by simp) _
  have hseq' : SeqOf Try.prog gf lb (fun x : Ls => #[.iface (tyOf x.i) (.slice x.o x.n x.c)]) K (fun pre y => pre ++ [y] <+: xs) (fun ys => ys = xs) w := hseq
  refine loop_of (gf := gf) (lb := lb) rfl eg hseq' hbw0 (fun _ => rfl) (fun k hk => by have := hK k hk; rw [hsz]; omega)
    (fun s Pr W => ∃ v, AppI w m B (.slice ov L0.length cv) L0 bs xs s Pr W v) (fun _ _ _ => False) ?stab ?but (fun _ _ _ _ _ h => h) ?start
    (fun x => { tmps := #[(.map (some m)), (.slice ov L0.length cv), (.func (.func gf) #[] lb), (.pointer (some ⟨w.heap.size, 0, none⟩)), (.pointer (some ⟨w.heap.size + 1, 0, none⟩)), undef, (.slice none 0 0), (.iface (tyOf x.i) (.slice x.o x.n x.c)), undef, undef, (.func (.func gf) #[] lb), (.iface (tyOf x.i) (.slice x.o x.n x.c)), undef, undef, undef, undef, undef, undef, undef, undef, undef, undef, undef, undef, undef, undef], defers := [] }) ?assign ?body ?done ?stop
  case stab =>
    rintro s Pr Pr' A D hc hN hp ⟨v, h⟩
    rw [hsz] at hc hN
    have hown : ∀ g, v.ownBlock = some g → g < A.heap.size := fun g hg => by
      obtain ⟨-, cur, hc⟩ := ORow.own h.row hg
      exact heap_lt hc
    have hnp : ∀ k, k < A.heap.size → ¬ Pr k → ¬ Pr' k := fun k hk hn hq => by
      rcases hp _ hq with h1 | h1
      · exact hn h1
      · omega
    exact ⟨v, (hc.below.block _ (by omega)).trans h.box0, (hc.below.block _ (by omega)).trans h.box, ORow.keep h.row fun g hg => hc.rest g (hown g hg) (h.own g hg).2, fun g hg => ⟨(h.own g hg).1, hnp g (hown g hg) (h.own g hg).2⟩, hnp _ (by omega) h.npr0, hnp _ (by omega) h.npr, ⟨hc.below.os.trans h.grew.os, hc.below.tape.trans h.grew.tape, hc.below.output.trans h.grew.output, Nat.le_trans h.grew.size hc.below.size, fun k hk ho => (hc.below.block k (by omega)).trans (h.grew.block k hk ho)⟩, h.pre⟩
  case but =>
    rintro s Pr A D hb ⟨v, h⟩
    rw [hsz] at hb
    refine ⟨v, (hb.block _ (by omega)).trans h.box0, (hb.block _ (by omega)).trans h.box, ORow.keep h.row fun g hg => hb.block g fun e => ?_, h.own, h.npr0, h.npr, ⟨hb.os.trans h.grew.os, hb.tape.trans h.grew.tape, hb.output.trans h.grew.output, by rw [hb.size]; exact h.grew.size, fun k hk ho => (hb.block k (by omega)).trans (h.grew.block k hk ho)⟩, h.pre⟩
    rcases (h.own g hg).1 with h1 | h1
    · have := hvo g h1
      omega
    · omega
  case start =>
    intro W hW hs
    rw [hsz] at hW hs
    have hbw : Below w.heap.size w W := hbw0.trans (hW.mono (by omega))
    refine ⟨.slice ov L0.length cv, (hW.block _ (by omega)).trans ((Below.heap_alloc _ _ _ (by simp)).trans (heap_alloc_new w _)), (hW.block _ (by omega)).trans (heap_alloc2_new w _ _), ?_, fun g hg => ⟨.inl hg, hKo g hg⟩, fun hk => by have := hK _ hk; omega, fun hk => by have := hK _ hk; omega, Grew.of hbw, List.nil_prefix⟩
    show RlRow B W _ (L0 ++ [])
    rw [List.append_nil]
    exact ORow.keep hrow fun g hg => hbw.block g (hvo g hg)
  case assign =>
    intro x W Kn hKn
    gi_wp2
    exact hKn
  case body =>
    rintro pre x Pr W ⟨v, h⟩ hok hN hPl hl hd n1 n2
    rw [hsz] at hN hl n1 n2
    obtain ⟨r, hl⟩ := hl
    rw [hsz] at hd
    have hplen : pre.length + 1 ≤ xs.length := by have := hok.length_le; simpa using this
    have hxm : x ∈ xs := hok.subset (by simp)
    obtain ⟨xi, xo9, xn, xc⟩ := x
    obtain ⟨xb, xo, exo, hn0, hnm, hnc, hxp, hxo, hxk, hx3⟩ := hxs _ hxm
    simp only at exo hn0 hnm hnc hxp hx3
    subst exo
    have hown : ∀ g, v.ownBlock = some g → g < W.heap.size := fun g hg => by
      obtain ⟨-, cur, hc⟩ := ORow.own h.row hg
      exact heap_lt hc
    have hown2 : ∀ g, v.ownBlock = some g → g ≠ w.heap.size ∧ g ≠ w.heap.size + 1 ∧ g ≠ w.heap.size + 2 ∧ g ≠ w.heap.size + 3 := fun g hg => by
      rcases (h.own g hg).1 with h1 | h1
      · have := hvo g h1
        omega
      · omega
    have hplw : ∀ a : Addr, PlainAt w a → some a.block ≠ (Value.slice ov L0.length cv).ownBlock → PlainAt W a := fun a ha hne => by
      obtain ⟨c, e, h9⟩ := ha
      exact ⟨c, e, (h.grew.block _ (heap_lt h9) (Ne.symm hne)).trans h9⟩
    have hsW : SetAt W m kvP bs := hset.keep (h.grew.block m hml hmo)
    obtain ⟨es, cm, hmW, hes⟩ := hsW
    obtain ⟨q, hq⟩ : ∃ q : Bool, (q = true ↔ ((xi, ⟨xb, xo, none⟩, xn) : Pk) ∈ bs) := ⟨decide (((xi, ⟨xb, xo, none⟩, xn) : Pk) ∈ bs), decide_eq_true_iff⟩
    have hqe : ∀ d : Decidable (((xi, ⟨xb, xo, none⟩, xn) : Pk) ∈ bs), @decide (((xi, ⟨xb, xo, none⟩, xn) : Pk) ∈ bs) d = q := by
      intro _
      cases q with
      | true => exact decide_eq_true (hq.1 rfl)
      | false => exact decide_eq_false fun h => by have := hq.2 h; cases this
    have HLK : Hid (∀ W', Below W.heap.size W W' → (Instr.lookup 151 (.map (some m)) (.agg #[.iface (ptrT xi) (.pointer (some ⟨xb, xo, none⟩)), .int .i64 (xn : Int)]) true).run Try.prog W' = .ok (.tuple #[.agg #[], .bool q]) W') := fun W' hB' => by
      have h9 := look_set Try.underlying151 zero_unit (fun b => check_place (k := ((xi, ⟨xb, xo, none⟩, xn) : Pk)) b W' hx3) ((hB'.block m (heap_lt hmW)).trans hmW) (finds_place (k := ((xi, ⟨xb, xo, none⟩, xn) : Pk)) hx3 (plain_later (hplw _ hxp hxo) hB' (Nat.le_refl _)) hes fun b hb => ⟨(hbs b hb).1, plain_later (hplw _ (hbs b hb).2.1 (hbs b hb).2.2.1) hB' (Nat.le_refl _)⟩)
      rw [hqe] at h9
      exact h9
    have hbx0 := cell_of h.box0 0
    simp only [List.getElem?_toArray, List.getElem?_cons_zero] at hbx0
    have hw0 : w.heap.size < W.heap.size := by omega
    have HQ := hide hq
    have HOWN2 := hide hown2
    have HI := hide h
    have HOK := hide hok
    have HL := hide hl
    have HD := hide hd
    have HOWN := hide hown
    have hmd := meth_pl hx3 (.slice (some ⟨xb, xo, none⟩) xn xc)
    have hep := ent_pl hx3
    clear h hok hl hd hown hown2 hplw hmW hes hq hqe hxm hxp hxo hxk
    gi_wp2
    refine wpIn_region_inv (fun L a' W' => ∃ l0 l1 l2 l3 l4 l5 l6 l7 l8 l9 : Bool, L = #[l0, l1, l2, l3, l4, l5, l6, l7, l8, l9] ∧ ∃ v8 v9 v12 v13 v14 v15 v16 v17 v18 : Value, a' = { tmps := #[(.map (some m)), (.slice ov L0.length cv), (.func (.func gf) #[] lb), (.pointer (some ⟨w.heap.size, 0, none⟩)), (.pointer (some ⟨w.heap.size + 1, 0, none⟩)), undef, (.slice none 0 0), (.iface (tyOf xi) (.slice (some ⟨xb, xo, none⟩) xn xc)), v8, v9, (.func (.func gf) #[] lb), (.iface (tyOf xi) (.slice (some ⟨xb, xo, none⟩) xn xc)), v12, v13, v14, v15, v16, v17, v18, undef, undef, undef, undef, undef, undef, undef], defers := [] } ∧ (l0 = true → v13 = .map (some m)) ∧ (l1 = true → v14 = (.iface (tyOf xi) (.slice (some ⟨xb, xo, none⟩) xn xc))) ∧ (l2 = true → v15 = .agg #[.iface (ptrT xi) (.pointer (some ⟨xb, xo, none⟩)), .int .i64 (xn : Int)]) ∧ (l3 = true → v16 = .tuple #[.agg #[], .bool q]) ∧ (l4 = true → v12 = .tuple #[.agg #[], .bool q]) ∧ (l5 = true → v17 = .agg #[]) ∧ (l6 = true → v18 = .bool q) ∧ (l7 = true → ∃ g, v8 = .pointer (some ⟨g, 0, none⟩) ∧ W.heap.size ≤ g ∧ W'.heap[g]? = some (.cells #[] 173 (0, 0))) ∧ (l9 = true → v9 = .bool q) ∧ Below W.heap.size W W') (by kernel_rfl) (by kernel_rfl) ?_ ?_ ?_
    · exact ⟨false, false, false, false, false, false, false, false, false, false, rfl, _, _, _, _, _, _, _, _, _, rfl, (fun h => by cases h), (fun h => by cases h), (fun h => by cases h), (fun h => by cases h), (fun h => by cases h), (fun h => by cases h), (fun h => by cases h), (fun h => by cases h), (fun h => by cases h), (Below.refl _ _).drew⟩
    · rintro L a' W' hsz ⟨l0, l1, l2, l3, l4, l5, l6, l7, l8, l9, rfl, v8, v9, v12, v13, v14, v15, v16, v17, v18, rfl, c0, c1, c2, c3, c4, c5, c6, c7, c9, hB⟩ i hi
      have hlt9 : i < 10 := ready_lt hi
      have hcase : i = 0 ∨ i = 1 ∨ i = 2 ∨ i = 3 ∨ i = 4 ∨ i = 5 ∨ i = 6 ∨ i = 7 ∨ i = 8 ∨ i = 9 := by omega
      rcases hcase with rfl | rfl | rfl | rfl | rfl | rfl | rfl | rfl | rfl | rfl
      · clear hi
        have z0 := (hB.cell (p := ⟨w.heap.size, 0, none⟩) hw0).trans hbx0
        refine wpOpIn_step rfl (fun K hK => ?_)
        go_simp
        refine hK _ _ ⟨true, l1, l2, l3, l4, l5, l6, l7, l8, l9, rfl, _, _, _, _, _, _, _, _, _, rfl, (fun _ => rfl), c1, c2, c3, c4, c5, c6, c7, c9, hB⟩
      · clear hi
        refine wpOpIn_step rfl (fun K hK => ?_)
        go_simp
        refine hK _ _ ⟨l0, true, l2, l3, l4, l5, l6, l7, l8, l9, rfl, _, _, _, _, _, _, _, _, _, rfl, c0, (fun _ => rfl), c2, c3, c4, c5, c6, c7, c9, hB⟩
      · have d1 : l1 = true := ready_dep 1 hi (by kernel_rfl)
        clear hi
        obtain rfl : v14 = (.iface (tyOf xi) (.slice (some ⟨xb, xo, none⟩) xn xc)) := c1 d1
        refine wpOpIn_step rfl (fun K hK => ?_)
        go_simp
        first | refine ⟨trivial, (fun h => by cases h), ?_⟩ | refine ⟨(fun h => by cases h), ?_⟩ | refine ⟨trivial, ?_⟩
        refine ((callsIn_wide (n := 0)).2 (place_I hx3 xb xo xn xc hn0 hnm hnc W')).mono ?_
        rintro e w1 ⟨rfl, hb⟩
        refine hK _ _ ⟨l0, l1, true, l3, l4, l5, l6, l7, l8, l9, rfl, _, _, _, _, _, _, _, _, _, rfl, c0, c1, (fun _ => rfl), c3, c4, c5, c6, (fun e8 => by obtain ⟨g, h1, h2, h3⟩ := c7 e8; exact ⟨g, h1, h2, (hb.block g (heap_lt h3)).trans h3⟩), c9, (hB.trans (hb.mono hB.size))⟩
      · have d0 : l0 = true := ready_dep 0 hi (by kernel_rfl)
        have d2 : l2 = true := ready_dep 2 hi (by kernel_rfl)
        clear hi
        obtain rfl : v13 = .map (some m) := c0 d0
        obtain rfl : v15 = .agg #[.iface (ptrT xi) (.pointer (some ⟨xb, xo, none⟩)), .int .i64 (xn : Int)] := c2 d2
        have hlk := HLK.out W' hB
        refine wpOpIn_step rfl (fun K hK => ?_)
        go_simp
        refine hK _ _ ⟨l0, l1, l2, true, l4, l5, l6, l7, l8, l9, rfl, _, _, _, _, _, _, _, _, _, rfl, c0, c1, c2, (fun _ => rfl), c4, c5, c6, c7, c9, hB⟩
      · have d3 : l3 = true := ready_dep 3 hi (by kernel_rfl)
        clear hi
        obtain rfl : v16 = .tuple #[.agg #[], .bool q] := c3 d3
        refine wpOpIn_step rfl (fun K hK => ?_)
        go_simp
        refine hK _ _ ⟨l0, l1, l2, l3, true, l5, l6, l7, l8, l9, rfl, _, _, _, _, _, _, _, _, _, rfl, c0, c1, c2, c3, (fun _ => rfl), c5, c6, c7, c9, hB⟩
      · have d4 : l4 = true := ready_dep 4 hi (by kernel_rfl)
        clear hi
        obtain rfl : v12 = .tuple #[.agg #[], .bool q] := c4 d4
        refine wpOpIn_step rfl (fun K hK => ?_)
        go_simp
        refine hK _ _ ⟨l0, l1, l2, l3, l4, true, l6, l7, l8, l9, rfl, _, _, _, _, _, _, _, _, _, rfl, c0, c1, c2, c3, c4, (fun _ => rfl), c6, c7, c9, hB⟩
      · have d4 : l4 = true := ready_dep 4 hi (by kernel_rfl)
        clear hi
        obtain rfl : v12 = .tuple #[.agg #[], .bool q] := c4 d4
        refine wpOpIn_step rfl (fun K hK => ?_)
        go_simp
        refine hK _ _ ⟨l0, l1, l2, l3, l4, l5, true, l7, l8, l9, rfl, _, _, _, _, _, _, _, _, _, rfl, c0, c1, c2, c3, c4, c5, (fun _ => rfl), c7, c9, hB⟩
      · clear hi
        have hb : Below W'.heap.size W' (W'.alloc (.cells #[] 173)) := (Below.refl _ _).alloc (Nat.le_refl _) _
        refine wpOpIn_step rfl (fun K hK => ?_)
        go_simp
        refine hK _ _ ⟨l0, l1, l2, l3, l4, l5, l6, true, l8, l9, rfl, _, _, _, _, _, _, _, _, _, rfl, c0, c1, c2, c3, c4, c5, c6, (fun _ => ⟨_, rfl, hB.size, heap_alloc_new W' _⟩), c9, (hB.trans (hb.mono hB.size))⟩
      · have d7 : l7 = true := ready_dep 7 hi (by kernel_rfl)
        have d5 : l5 = true := ready_dep 5 hi (by kernel_rfl)
        clear hi
        obtain rfl : v17 = .agg #[] := c5 d5
        obtain ⟨g, rfl, hg1, hg2⟩ := c7 d7
        have hg3 := cell_of hg2
        refine wpOpIn_step rfl (fun K hK => ?_)
        go_simp
        refine hK _ _ ⟨l0, l1, l2, l3, l4, l5, l6, l7, true, l9, rfl, _, _, _, _, _, _, _, _, _, rfl, c0, c1, c2, c3, c4, c5, c6, c7, c9, hB⟩
      · have d6 : l6 = true := ready_dep 6 hi (by kernel_rfl)
        clear hi
        obtain rfl : v18 = .bool q := c6 d6
        refine wpOpIn_step rfl (fun K hK => ?_)
        go_simp
        refine hK _ _ ⟨l0, l1, l2, l3, l4, l5, l6, l7, l8, true, rfl, _, _, _, _, _, _, _, _, _, rfl, c0, c1, c2, c3, c4, c5, c6, c7, (fun _ => rfl), hB⟩
    · rintro L a' W2 hsz ⟨l0, l1, l2, l3, l4, l5, l6, l7, l8, l9, rfl, v8, v9, v12, v13, v14, v15, v16, v17, v18, rfl, c0, c1, c2, c3, c4, c5, c6, c7, c9, hB⟩ hall
      have e0 : l0 = true := hall 0 (by show 0 < 10; omega)
      have e1 : l1 = true := hall 1 (by show 1 < 10; omega)
      have e2 : l2 = true := hall 2 (by show 2 < 10; omega)
      have e3 : l3 = true := hall 3 (by show 3 < 10; omega)
      have e4 : l4 = true := hall 4 (by show 4 < 10; omega)
      have e5 : l5 = true := hall 5 (by show 5 < 10; omega)
      have e6 : l6 = true := hall 6 (by show 6 < 10; omega)
      have e7 : l7 = true := hall 7 (by show 7 < 10; omega)
      have e8 : l8 = true := hall 8 (by show 8 < 10; omega)
      have e9 : l9 = true := hall 9 (by show 9 < 10; omega)
      obtain rfl : v13 = .map (some m) := c0 e0
      obtain rfl : v14 = (.iface (tyOf xi) (.slice (some ⟨xb, xo, none⟩) xn xc)) := c1 e1
      obtain rfl : v15 = .agg #[.iface (ptrT xi) (.pointer (some ⟨xb, xo, none⟩)), .int .i64 (xn : Int)] := c2 e2
      obtain rfl : v16 = .tuple #[.agg #[], .bool q] := c3 e3
      obtain rfl : v12 = .tuple #[.agg #[], .bool q] := c4 e4
      obtain rfl : v17 = .agg #[] := c5 e5
      obtain rfl : v18 = .bool q := c6 e6
      obtain rfl : v9 = .bool q := c9 e9
      clear hall c0 c1 c2 c3 c4 c5 c6 c7 c9
      have HI2 := hide (HI.out.later hB)
      have HB2 := hide hB
      have hs2 : W.heap.size ≤ W2.heap.size := hB.size
      have hbx := cell_of HI2.out.box 0
      have hfx := frozen_of HI2.out.box 0
      simp only [List.getElem?_toArray, List.getElem?_cons_zero] at hbx
      clear hB hbx0 HLK hw0 hsz
      have hsz : ((w.alloc (.cells #[.map (some m)] 151)).alloc (.cells #[.slice ov L0.length cv] 104)).heap.size = w.heap.size + 2 := by simp
      cases q
      · have hnk : ((xi, ⟨xb, xo, none⟩, xn) : Pk) ∉ bs := fun h => by have := HQ.out.2 h; cases this
        have HFR : Hid (fresh bs (pre ++ [(⟨xi, some ⟨xb, xo, none⟩, xn, xc⟩ : Ls)]) = fresh bs pre ++ [(⟨xi, some ⟨xb, xo, none⟩, xn, xc⟩ : Ls)]) := by
          have := fresh_snoc bs pre ⟨xi, some ⟨xb, xo, none⟩, xn, xc⟩
          rw [if_neg (show pk (⟨xi, some ⟨xb, xo, none⟩, xn, xc⟩ : Ls) ∉ bs from hnk)] at this
          exact this
        have hfl := fresh_len bs pre
        have hrw : RlRow B (W2.alloc (.cells #[(.iface (tyOf xi) (.slice (some ⟨xb, xo, none⟩) xn xc))] 111)) v (L0 ++ (fresh bs pre).map valL) := ORow.keep HI2.out.row fun g hg => Below.heap_alloc W2 _ g (Nat.lt_of_lt_of_le (HOWN.out g hg) hs2)
        have HRW := hide hrw
        have HNOT : Hid (∀ k, (k = w.heap.size ∨ k = w.heap.size + 1 ∨ k = w.heap.size + 2 ∨ k = w.heap.size + 3) → some k ≠ v.ownBlock) := fun k hk e => by
          have := HOWN2.out k e.symm
          omega
        clear hrw hnk
        have hBW2 : B ≤ W2.heap.size := by omega
        gi_wp2_with (gi_at_builtin; refine wpListIn_append_own_at _ rfl _ _ 104 rfl B 111 _ .nilIface 1 16 Try.underlying104 rfl rfl rfl rfl rfl (by decide) v _ (L0 ++ (fresh bs pre).map valL) rfl HRW.out ⟨W2.heap.size, 0, none⟩ 1 1 [(.iface (tyOf xi) (.slice (some ⟨xb, xo, none⟩) xn xc))] rfl rfl (fun j y hj => by cases j with | zero => (simp at hj; subst hj; exact cell_of (heap_alloc_new W2 _) 0) | succ j => simp at hj) (fun y hy => by rw [List.mem_singleton.1 hy]; rfl) (by unfold maxLen; simp; omega) (by simp; omega) (Nat.le_trans hBW2 (by simp)) ?_; intro v2 w2 h2 h3 h4 h5; rw [List.length_append, List.length_map] at h2; obtain ⟨o2, c2, rfl⟩ := owns_form h2; have HR := hide h2; have HG := hide h3; have HOB := hide h5; have x2 := (World.cell?_of_block (a := ⟨w.heap.size + 1, 0, none⟩) ((h3.block (w.heap.size + 1) (by simp; omega) (HNOT.out _ (.inr (.inl rfl)))).trans (Below.heap_alloc W2 _ _ (by omega)))).trans hbx; have f2 := (World.frozen?_of_block (a := ⟨w.heap.size + 1, 0, none⟩) ((h3.block (w.heap.size + 1) (by simp; omega) (HNOT.out _ (.inr (.inl rfl)))).trans (Below.heap_alloc W2 _ _ (by omega)))).trans hfx; clear h2 h3 h4 h5)
        generalize hN9 : L0.length + (fresh bs pre).length + 1 = N9 at *
        generalize hV2 : Value.slice o2 N9 c2 = v2 at *
        have hgb : ∀ k, k < W.heap.size → some k ≠ v.ownBlock → (w2.setCell ⟨w.heap.size + 1, 0, none⟩ v2).heap[k]? = if k = w.heap.size + 1 then some (.cells #[v2] 104 (0, 0)) else W.heap[k]? := by
          intro k hk ho
          have hkb := (HG.out.block k (by simp; omega) ho).trans (Below.heap_alloc W2 _ _ (Nat.lt_of_lt_of_le hk hs2))
          by_cases e : k = w.heap.size + 1
          · subst e
            rw [if_pos rfl]
            exact heap_set_same v2 (hkb.trans HI2.out.box)
          · rw [if_neg e]
            exact (heap_set_other v2 e).trans (hkb.trans (HB2.out.block k hk))
        have hsz2 : W2.heap.size + 1 ≤ w2.heap.size := by have := HG.out.size; simpa using this
        refine ⟨⟨?_, ?_⟩, ⟨v2, ?_, ?_, ?_, fun g hg => ?_, HI.out.npr0, HI.out.npr, ?_, HOK.out⟩, ?_, fun k hk hlk => ?_⟩
        · rw [hsz, hgb _ (by omega) (HNOT.out _ (.inr (.inr (.inl rfl)))), if_neg (by omega)]
        · rw [hsz, hgb _ (by omega) (HNOT.out _ (.inr (.inr (.inr rfl)))), if_neg (by omega)]
        · rw [hgb _ (by omega) (HNOT.out _ (.inl rfl)), if_neg (by omega)]
          exact HI.out.box0
        · rw [hgb _ (by omega) (HNOT.out _ (.inr (.inl rfl))), if_pos rfl]
        · have h9 : RlRow B w2 v2 (L0 ++ (fresh bs (pre ++ [(⟨xi, some ⟨xb, xo, none⟩, xn, xc⟩ : Ls)])).map valL) := by
            have h8 := HR.out
            unfold RlRow ORow
            rw [HFR.out, List.map_append, ← List.append_assoc, List.map_cons, List.map_nil]
            rw [show (L0 ++ (fresh bs pre).map valL ++ [valL (⟨xi, some ⟨xb, xo, none⟩, xn, xc⟩ : Ls)]).length = N9 by simp; omega]
            exact h8
          refine ORow.keep h9 fun g hg => heap_set_other v2 fun e => ?_
          rcases HOB.out with h1 | h1
          · rw [h1] at hg
            exact (HOWN2.out g hg).2.1 e
          · rw [h1] at hg
            have h2 := Option.some.inj hg
            simp at h2
            omega
        · rcases HOB.out with h1 | h1
          · rw [h1] at hg
            exact HI.out.own g hg
          · rw [h1] at hg
            have h2 := Option.some.inj hg
            simp at h2
            refine ⟨.inr (by omega), fun hq => ?_⟩
            have := hPl _ hq
            omega
        · have h1 := HI2.out.grew
          have h2 := HG.out
          refine ⟨?_, ?_, ?_, ?_, fun k hk ho => ?_⟩
          · show w2.os = w.os
            exact h2.os.trans h1.os
          · show w2.tape = w.tape
            exact h2.tape.trans h1.tape
          · show w2.output = w.output
            exact h2.output.trans h1.output
          · simp
            have := h1.size
            omega
          · rw [hgb k (Nat.lt_of_lt_of_le hk HI.out.grew.size) (fun e => ?_), if_neg (by omega)]
            · exact HI.out.grew.block k hk ho
            · rcases (HI.out.own k e.symm).1 with h3 | h3
              · exact ho h3
              · omega
        · simp
          omega
        · rw [hgb k hlk (fun e => (HI.out.own k e.symm).2 hk), if_neg (fun e => HI.out.npr (by rw [← e]; exact hk))]
      · have hnk : ((xi, ⟨xb, xo, none⟩, xn) : Pk) ∈ bs := HQ.out.1 rfl
        have HFR : Hid (fresh bs (pre ++ [(⟨xi, some ⟨xb, xo, none⟩, xn, xc⟩ : Ls)]) = fresh bs pre) := by
          have := fresh_snoc bs pre ⟨xi, some ⟨xb, xo, none⟩, xn, xc⟩
          rw [if_pos (show pk (⟨xi, some ⟨xb, xo, none⟩, xn, xc⟩ : Ls) ∈ bs from hnk), List.append_nil] at this
          exact this
        clear hnk hbx hfx
        gi_wp2
        have h2 := HI2.out
        refine ⟨⟨?_, ?_⟩, ⟨v, h2.box0, h2.box, ?_, h2.own, h2.npr0, h2.npr, h2.grew, HOK.out⟩, KeptP.of HB2.out |>.less (fun k h => h)⟩
        · try rw [hsz]
          exact HB2.out.block _ (by omega)
        · try rw [hsz]
          exact HB2.out.block _ (by omega)
        · rw [HFR.out]; exact h2.row
  case done =>
    rintro ys W rfl ⟨v, h⟩ hd
    rw [hsz] at hd
    have hbx := cell_of h.box 0
    have hfx := frozen_of h.box 0
    simp only [List.getElem?_toArray, List.getElem?_cons_zero] at hbx
    have HI := hide h
    have HD := hide hd
    clear h hd
    gi_wp2
    have hsz' := hsz
    refine ⟨by simp, .inl ⟨_, _, rfl, run_takeDeferred (by rw [hsz]; exact HD.out), _, results_tmp rfl _ _ _, v, rfl, ?_, fun g hg => ?_, ?_⟩⟩
    · refine ORow.keep HI.out.row fun g hg => World.putObj_heap_other fun e => ?_
      rw [hsz] at e
      rcases (HI.out.own g hg).1 with h1 | h1
      · have := hvo g h1
        omega
      · omega
    · rcases (HI.out.own g hg).1 with h1 | h1
      · exact .inl h1
      · exact .inr (by omega)
    · have h1 := HI.out.grew
      refine ⟨h1.os, h1.tape, h1.output, ?_, fun k hk ho => ?_⟩
      · simpa [World.putObj] using h1.size
      · exact (World.putObj_heap_other (by rw [hsz]; omega)).trans (h1.block k hk ho)
  case stop =>
    rintro c pre W h _
    exact h.elim
end Go.Proofs.Ytgeckgdmkjddpaa.Hd
namespace Go.Proofs.Ytgeckgdmkjddpaa.Hd
open Go.ChangeShapes Go.WideShapes Go.ChangeAt Go.RowKit Go.Shelf Go.Proofs.Ytgeckgdmkjddpaa.It Go.Proofs.Ytgeckgdmkjddpaa.Vo Go.Proofs.Ytgeckgdmkjddpaa.Br
attribute [local go_sem] Oper.semAt_some
set_option linter.unusedVariables false

def PrU (K : Nat → Prop) (Bs mb : Nat) (v : Value) (k : Nat) : Prop := (K k ∨ k = Bs) ∨ k = mb ∨ k = mb + 1 ∨ v.ownBlock = some k
/-- What listsUp holds of the memory: the row of what is left, what has begun and what has ended. -/
structure UW (K : Nat → Prop) (Bs : Nat) (J : List Ls → (Nat → Prop) → World → Prop) (W : World) (v : Value) (lv : List Value) (ys : List Ls) (bs es : List Pk) (wr : World) : Prop where
  j : J ys (PrU K Bs W.heap.size v) wr
  row : RlRow W.heap.size wr v lv
  setb : SetAt wr W.heap.size kvP bs
  sete : SetAt wr (W.heap.size + 1) kvP es
  keep : KeptP (fun k => K k ∨ k = Bs) W wr
section
variable {K : Nat → Prop} {Bs : Nat} {J : List Ls → (Nat → Prop) → World → Prop} {W wr w1 : World} {v : Value} {lv : List Value} {ys : List Ls} {bs es : List Pk}
theorem UW.own (h : UW K Bs J W v lv ys bs es wr) {g : Nat} (hg : v.ownBlock = some g) : g < wr.heap.size ∧ W.heap.size + 1 < g := by
  obtain ⟨hN, cur, hc⟩ := ORow.own h.row hg
  refine ⟨heap_lt hc, ?_⟩
  have h1 : g ≠ W.heap.size := fun e => by
    obtain ⟨es, c5, hm5, -⟩ := h.setb
    rw [e, hm5] at hc
    cases hc
  have h2 : g ≠ W.heap.size + 1 := fun e => by
    obtain ⟨es, c5, hm5, -⟩ := h.sete
    rw [e, hm5] at hc
    cases hc
  omega
theorem UW.lt (h : UW K Bs J W v lv ys bs es wr) (hN : ∀ k, (K k ∨ k = Bs) → k < W.heap.size) : ∀ k, PrU K Bs W.heap.size v k → k < wr.heap.size := by
  intro k hk
  have h1 := h.sete.lt
  rcases hk with hk | hk | hk | hk
  · have := hN k hk
    omega
  · omega
  · omega
  · exact (h.own hk).1
theorem UW.below (hJ : Stab W.heap.size J) (h : UW K Bs J W v lv ys bs es wr) (hb : Below wr.heap.size wr w1) : UW K Bs J W v lv ys bs es w1 :=
  ⟨hJ _ _ _ _ _ (Chg.of hb h.keep.1) h.keep.1 (fun k hk => .inl hk) h.j, ORow.keep h.row fun g hg => hb.block g (h.own hg).1, h.setb.keep (hb.block _ h.setb.lt), h.sete.keep (hb.block _ h.sete.lt), h.keep.trans (KeptP.of hb)⟩
theorem UW.oth (hJ : Stab W.heap.size J) (hN : ∀ k, (K k ∨ k = Bs) → k < W.heap.size) (h : UW K Bs J W v lv ys bs es wr) {m : Nat} (hm : m = W.heap.size ∨ m = W.heap.size + 1) (ho : Oth m wr w1) {bs' es' : List Pk} (h1 : SetAt w1 W.heap.size kvP bs') (h2 : SetAt w1 (W.heap.size + 1) kvP es') : UW K Bs J W v lv ys bs' es' w1 := by
  have hk : ∀ k, k < wr.heap.size → k ≠ m → w1.heap[k]? = wr.heap[k]? := fun k h3 h4 => ho.block k ⟨h3, h4⟩
  have hNr := h.keep.1
  refine ⟨hJ _ _ _ _ _ ⟨⟨ho.os, ho.tape, ho.output, ho.size, fun k hkl => hk k (by omega) (by omega)⟩, fun k hkl hp => hk k hkl fun e => hp ?_⟩ hNr (fun k hk => .inl hk) h.j, ORow.keep h.row fun g hg => hk g (h.own hg).1 (by have := (h.own hg).2; omega), h1, h2, ⟨Nat.le_trans hNr ho.size, fun k hkk hkl => (hk k (by omega) (by omega)).trans (h.keep.2 k hkk hkl)⟩⟩
  unfold PrU
  rcases hm with hm | hm <;> simp [e, hm]
theorem UW.pop {v' : Value} {lv' : List Value} (h : UW K Bs J W v lv ys bs es wr) (hv : v'.ownBlock = v.ownBlock) (hr : RlRow W.heap.size wr v' lv') : UW K Bs J W v' lv' ys bs es wr :=
  ⟨by have := h.j; unfold PrU at this ⊢; rw [hv]; exact this, hr, h.setb, h.sete, h.keep⟩
theorem UW.grew (hJ : Stab W.heap.size J) (hN : ∀ k, (K k ∨ k = Bs) → k < W.heap.size) (h : UW K Bs J W v lv ys bs es wr) {v' : Value} {lv' : List Value} (hr : RlRow W.heap.size w1 v' lv') (hown : ∀ q, v'.ownBlock = some q → v.ownBlock = some q ∨ wr.heap.size ≤ q) (hg : Grew v.ownBlock wr w1) : UW K Bs J W v' lv' ys bs es w1 := by
  have hNr := h.keep.1
  have hk : ∀ k, k < wr.heap.size → v.ownBlock ≠ some k → w1.heap[k]? = wr.heap[k]? := hg.block
  have hno : ∀ k, k ≤ W.heap.size + 1 → v.ownBlock ≠ some k := fun k hk e => by have := (h.own e).2; omega
  refine ⟨hJ ys _ _ wr w1 ⟨⟨hg.os, hg.tape, hg.output, hg.size, fun k hkl => hk k (by omega) (hno k (by omega))⟩, fun k hkl hp => hk k hkl fun e => hp (.inr (.inr (.inr e)))⟩ hNr (fun k hk => ?_) h.j, hr, h.setb.keep (hk _ h.setb.lt (hno _ (by omega))), h.sete.keep (hk _ h.sete.lt (hno _ (by omega))), ⟨Nat.le_trans hNr hg.size, fun k hk1 hk2 => (hk k (by omega) (hno k (by omega))).trans (h.keep.2 k hk1 hk2)⟩⟩
  rcases hk with hk | hk | hk | hk
  · exact .inl (.inl hk)
  · exact .inl (.inr (.inl hk))
  · exact .inl (.inr (.inr (.inl hk)))
  · rcases hown k hk with h1 | h1
    · exact .inl (.inr (.inr (.inr h1)))
    · exact .inr h1
theorem UW.yielded {x : Ls} (hN : ∀ k, (K k ∨ k = Bs) → k < W.heap.size) (h : UW K Bs J W v lv ys bs es wr) (hj : J (ys ++ [x]) (PrU K Bs W.heap.size v) w1) (hk : KeptP (PrU K Bs W.heap.size v) wr w1) : UW K Bs J W v lv (ys ++ [x]) bs es w1 :=
  ⟨hj, ORow.keep h.row fun g hg => hk.2 g (.inr (.inr (.inr hg))) (h.own hg).1, h.setb.keep (hk.2 _ (.inr (.inl rfl)) h.setb.lt), h.sete.keep (hk.2 _ (.inr (.inr (.inl rfl))) h.sete.lt), h.keep.trans (hk.less fun k hk => .inl hk)⟩
end

set_option maxHeartbeats 1000000 in
set_option maxRecDepth 100000 in
theorem clone_one (w : World) (b c : Nat) (u : Value) (hu : w.cell? ⟨b, 0, none⟩ = some u) (h1 : u.oneCell' = true) :
    Calls Try.prog 69 #[.slice (some ⟨b, 0, none⟩) 1 c] w fun e w' => ∃ v, e = .returned v ∧ RlRow w.heap.size w' v [u] ∧ Below w.heap.size w w' := by
  have hbl : b < w.heap.size := by
    rcases Nat.lt_or_ge b w.heap.size with h | h
    · exact h
    · exfalso
      simp [World.cell?, Array.getElem?_eq_none h] at hu
  have hB1 : Below w.heap.size w (w.alloc (.cells #[] 111)) := (Below.refl _ w).alloc (Nat.le_refl _) _
  have hown0 : (w.alloc (.cells #[] 111)).ownsRow w.heap.size 111 1 (.slice (some ⟨w.heap.size, 0, none⟩) 0 0) 0 [] := owns_empty w 111 1
  obtain ⟨i0, hi0, hz0, hz1, hz2⟩ : ∃ i0, Try.prog.info? 111 = some i0 ∧ i0.zero = some .nilIface ∧ i0.size = 1 ∧ i0.bytes = 16 := ⟨_, rfl, rfl, rfl, rfl⟩
  obtain ⟨v4, w4, hr4, hown4, hgr4, hbk4⟩ := Nm.app_run (P := Try.prog) Try.underlying104 hi0 hz0 hz1 hz2 rfl (by decide) (by decide) hown0 hB1.size (some ⟨b, 0, none⟩) 1 c [u] (by simp) (fun _ => ⟨b, 0, rfl, fun j y hj => by
    cases j with
    | zero =>
      simp at hj
      subst hj
      exact (hB1.cell (p := ⟨b, 0, none⟩) hbl).trans hu
    | succ j => simp at hj⟩) (fun y hy => by rw [List.mem_singleton.1 hy]; exact h1) (by omega) 104
  rw [Nat.zero_add, List.nil_append] at hown4
  obtain ⟨o4, c4, hv4⟩ := owns_form hown4
  subst hv4
  have HR4 := hide hr4
  have HF : Hid (∃ v, Ending.returned (.slice o4 1 c4) = .returned v ∧ RlRow w.heap.size w4 v [u] ∧ Below w.heap.size w w4) := ⟨_, rfl, hown4, hB1.trans (Nm.below_grown hgr4 hB1.size fun k hk => by cases hk; exact Nat.le_refl _)⟩
  have hnil : (binOp .eql 104 (.slice (some ⟨b, 0, none⟩) 1 c) (.slice none 0 0)).run Try.prog w = .ok (.bool false) w := by kernel_rfl
  clear hu hB1 hown0 hi0 hz0 hz1 hz2 hown4 hgr4 hbk4 hr4
  go_enter Try.func69, Try.ntmps69
  go_wp2_with (at_builtin; refine Lib.wpList_append_run _ rfl _ _ _ _ rfl _ _ rfl rfl _ _ HR4.out ?_)
  go_ret
  exact HF.out
end Go.Proofs.Ytgeckgdmkjddpaa.Hd
