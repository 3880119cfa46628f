/- The program's appendUnless, over whatever iterator keeps its word (made by genZVF.py). -/
import Derived.Test.YtifambhfggodaaaZVE
import Derived.Test.YtifambhfggodaaaCZa
import Derived.Test.YtifambhfggodaaaQH
import Derived.Maps.OwnIn
namespace Go.Proofs.Ytifambhfggodaaa.Rs
open Go.ChangeShapes Go.WideShapes Go.ChangeAt Go.RowKit Go.Shelf Go.Proofs.Ytifambhfggodaaa.It Go.Proofs.Ytifambhfggodaaa.Vo
attribute [local go_sem] Oper.semAt_some
set_option linter.unusedVariables false

/-- What a call that owns a row leaves of the memory. -/
structure Grew (own : Option Nat) (w w' : World) : Prop where
  os : w'.os = w.os
  tape : w'.tape = w.tape
  output : w'.output = w.output
  size : w.heap.size ≤ w'.heap.size
  block : ∀ k, k < w.heap.size → own ≠ some k → w'.heap[k]? = w.heap[k]?
theorem Grew.of {own : Option Nat} {w w' : World} (h : Below w.heap.size w w') : Grew own w w' := ⟨h.os, h.tape, h.output, h.size, fun k hk _ => h.block k hk⟩
def RlRow (B : Nat) (W : World) (v : Value) (l : List Value) : Prop := ORow 36 B W v l
structure AppI (w : World) (m B : Nat) (vl : Value) (L0 : List Value) (bs : List Pk) (xs s : List Rl) (Pr : Nat → Prop) (W : World) (v : Value) : Prop where
  box0 : W.heap[w.heap.size]? = some (.cells #[.map (some m)] 48 (0, 0))
  box : W.heap[w.heap.size + 1]? = some (.cells #[v] 46 (0, 0))
  row : RlRow B W v (L0 ++ (fresh bs s).map valR)
  own : ∀ g, v.ownBlock = some g → (vl.ownBlock = some g ∨ w.heap.size + 4 ≤ g) ∧ ¬ Pr g
  npr0 : ¬ Pr w.heap.size
  npr : ¬ Pr (w.heap.size + 1)
  grew : Grew vl.ownBlock w W
  pre : s <+: xs
theorem AppI.later {w : World} {m B : Nat} {vl : Value} {L0 : List Value} {bs : List Pk} {xs s : List Rl} {Pr : Nat → Prop} {W W2 : World} {v : Value} (h : AppI w m B vl L0 bs xs s Pr W v) (hb : Below W.heap.size W W2) : AppI w m B vl L0 bs xs s Pr W2 v :=
  ⟨(hb.block _ (heap_lt h.box0)).trans h.box0, (hb.block _ (heap_lt h.box)).trans h.box, ORow.keep h.row fun g hg => hb.block g (by obtain ⟨-, cur, hc⟩ := ORow.own h.row hg; exact heap_lt hc), h.own, h.npr0, h.npr, ⟨hb.os.trans h.grew.os, hb.tape.trans h.grew.tape, hb.output.trans h.grew.output, Nat.le_trans h.grew.size hb.size, fun k hk ho => (hb.block k (Nat.lt_of_lt_of_le hk h.grew.size)).trans (h.grew.block k hk ho)⟩, h.pre⟩
theorem fresh_len (bs : List Pk) (l : List Rl) : (fresh bs l).length ≤ l.length := List.length_filter_le _ _

set_option maxRecDepth 100000 in
set_option maxHeartbeats 8000000 in
theorem appendUnless_any {gf : Nat} {lb : Array Value} (w : World) (m : Nat) (bs : List Pk) (hset : SetAt w m kvP bs) (vl : Value) (L0 : List Value) (B : Nat) (hrow : RlRow B w vl L0) (hmo : vl.ownBlock ≠ some m) (hB : B ≤ w.heap.size) (K : Nat → Prop) (hK : ∀ k, K k → k < w.heap.size) (hKo : ∀ g, vl.ownBlock = some g → ¬ K g) (xs : List Rl)
    (hseq : SeqOf Try.prog gf lb (fun x => #[valR x]) K (fun pre y => pre ++ [y] <+: xs) (fun ys => ys = xs) w) (eg : ∀ args w, (callFunc gf args).run Try.prog w = .ok (.enter gf args) w) (hlen : L0.length + xs.length ≤ 10000000)
    (hxs : ∀ x ∈ xs, ∃ xb xo, x.o = some ⟨xb, xo, none⟩ ∧ x.n ≠ 0 ∧ x.n ≤ maxLen ∧ x.n ≤ x.c ∧ PlainAt w ⟨xb, xo, none⟩ ∧ some xb ≠ vl.ownBlock ∧ xb ≠ m) (hbs : ∀ b ∈ bs, PlainAt w b.1 ∧ some b.1.block ≠ vl.ownBlock ∧ b.1.block ≠ m) :
    Calls Try.prog 18 #[.map (some m), vl, .func (.func gf) #[] lb] w fun e w' => ∃ v, e = .returned v ∧ RlRow B w' v (L0 ++ (fresh bs xs).map valR) ∧ (∀ g, v.ownBlock = some g → vl.ownBlock = some g ∨ w.heap.size ≤ g) ∧ Grew vl.ownBlock w w' := by
  have hml := hset.lt
  have hvo : ∀ g, vl.ownBlock = some g → g < w.heap.size := fun g hg => by
    obtain ⟨-, cur, hc⟩ := ORow.own hrow hg
    exact heap_lt hc
  obtain ⟨ov, cv, rfl, -, -⟩ := ORow.form hrow
  refine (callsIn_wide (n := 3)).1 ?_
  refine callsIn_of_wp_marks Try.func18 rfl trivial ?_ rfl
  simp only [Try.ntmps18, List.size_toArray, List.length_cons, List.length_nil, Nat.reduceAdd, Nat.reduceSub, Array.replicate_succ, Array.replicate_zero, List.push_toArray, List.append_toArray, List.nil_append, List.cons_append]
  gi_wp2
  have hsz : ((w.alloc (.cells #[.map (some m)] 48)).alloc (.cells #[.slice ov L0.length cv] 46)).heap.size = w.heap.size + 2 := by simp
  have hbw0 : Below w.heap.size w ((w.alloc (.cells #[.map (some m)] 48)).alloc (.cells #[.slice ov L0.length cv] 46)) := ((Below.refl _ w).alloc (Nat.le_refl _) _).alloc (by simp) _
  have hseq' : SeqOf Try.prog gf lb (fun x : Rl => #[.slice x.o x.n x.c]) K (fun pre y => pre ++ [y] <+: xs) (fun ys => ys = xs) w := hseq
  refine loop_of (gf := gf) (lb := lb) rfl eg hseq' hbw0 (fun _ => rfl) (fun k hk => by have := hK k hk; rw [hsz]; omega)
    (fun s Pr W => ∃ v, AppI w m B (.slice ov L0.length cv) L0 bs xs s Pr W v) (fun _ _ _ => False) ?stab ?but (fun _ _ _ _ _ h => h) ?start
    (fun x => { tmps := #[(.map (some m)), (.slice ov L0.length cv), (.func (.func gf) #[] lb), (.pointer (some ⟨w.heap.size, 0, none⟩)), (.pointer (some ⟨w.heap.size + 1, 0, none⟩)), undef, (.slice none 0 0), (.slice x.o x.n x.c), undef, undef, (.func (.func gf) #[] lb), (.slice x.o x.n x.c), undef, undef, undef, undef, undef, undef, undef, undef, undef, undef, undef, undef, undef, undef, undef], defers := [] }) ?assign ?body ?done ?stop
  case stab =>
    rintro s Pr Pr' A D hc hN hp ⟨v, h⟩
    rw [hsz] at hc hN
    have hown : ∀ g, v.ownBlock = some g → g < A.heap.size := fun g hg => by
      obtain ⟨-, cur, hc⟩ := ORow.own h.row hg
      exact heap_lt hc
    have hnp : ∀ k, k < A.heap.size → ¬ Pr k → ¬ Pr' k := fun k hk hn hq => by
      rcases hp _ hq with h1 | h1
      · exact hn h1
      · omega
    exact ⟨v, (hc.below.block _ (by omega)).trans h.box0, (hc.below.block _ (by omega)).trans h.box, ORow.keep h.row fun g hg => hc.rest g (hown g hg) (h.own g hg).2, fun g hg => ⟨(h.own g hg).1, hnp g (hown g hg) (h.own g hg).2⟩, hnp _ (by omega) h.npr0, hnp _ (by omega) h.npr, ⟨hc.below.os.trans h.grew.os, hc.below.tape.trans h.grew.tape, hc.below.output.trans h.grew.output, Nat.le_trans h.grew.size hc.below.size, fun k hk ho => (hc.below.block k (by omega)).trans (h.grew.block k hk ho)⟩, h.pre⟩
  case but =>
    rintro s Pr A D hb ⟨v, h⟩
    rw [hsz] at hb
    refine ⟨v, (hb.block _ (by omega)).trans h.box0, (hb.block _ (by omega)).trans h.box, ORow.keep h.row fun g hg => hb.block g fun e => ?_, h.own, h.npr0, h.npr, ⟨hb.os.trans h.grew.os, hb.tape.trans h.grew.tape, hb.output.trans h.grew.output, by rw [hb.size]; exact h.grew.size, fun k hk ho => (hb.block k (by omega)).trans (h.grew.block k hk ho)⟩, h.pre⟩
    rcases (h.own g hg).1 with h1 | h1
    · have := hvo g h1
      omega
    · omega
  case start =>
    intro W hW hs
    rw [hsz] at hW hs
    have hbw : Below w.heap.size w W := hbw0.trans (hW.mono (by omega))
    refine ⟨.slice ov L0.length cv, (hW.block _ (by omega)).trans ((Below.heap_alloc _ _ _ (by simp)).trans (heap_alloc_new w _)), (hW.block _ (by omega)).trans (heap_alloc2_new w _ _), ?_, fun g hg => ⟨.inl hg, hKo g hg⟩, fun hk => by have := hK _ hk; omega, fun hk => by have := hK _ hk; omega, Grew.of hbw, List.nil_prefix⟩
    show RlRow B W _ (L0 ++ [])
    rw [List.append_nil]
    exact ORow.keep hrow fun g hg => hbw.block g (hvo g hg)
  case assign =>
    intro x W Kn hKn
    gi_wp2
    exact hKn
  case body =>
    rintro pre x Pr W ⟨v, h⟩ hok hN hPl hl hd n1 n2
    rw [hsz] at hN hl n1 n2
    obtain ⟨r, hl⟩ := hl
    rw [hsz] at hd
    have hplen : pre.length + 1 ≤ xs.length := by have := hok.length_le; simpa using this
    have hxm : x ∈ xs := hok.subset (by simp)
    obtain ⟨xo9, xn, xc⟩ := x
    obtain ⟨xb, xo, exo, hn0, hnm, hnc, hxp, hxo, hxk⟩ := hxs _ hxm
    simp only at exo hn0 hnm hnc hxp
    subst exo
    have hown : ∀ g, v.ownBlock = some g → g < W.heap.size := fun g hg => by
      obtain ⟨-, cur, hc⟩ := ORow.own h.row hg
      exact heap_lt hc
    have hown2 : ∀ g, v.ownBlock = some g → g ≠ w.heap.size ∧ g ≠ w.heap.size + 1 ∧ g ≠ w.heap.size + 2 ∧ g ≠ w.heap.size + 3 := fun g hg => by
      rcases (h.own g hg).1 with h1 | h1
      · have := hvo g h1
        omega
      · omega
    have hplw : ∀ a : Addr, PlainAt w a → some a.block ≠ (Value.slice ov L0.length cv).ownBlock → PlainAt W a := fun a ha hne => by
      obtain ⟨c, e, h9⟩ := ha
      exact ⟨c, e, (h.grew.block _ (heap_lt h9) (Ne.symm hne)).trans h9⟩
    have hsW : SetAt W m kvP bs := hset.keep (h.grew.block m hml hmo)
    obtain ⟨es, cm, hmW, hes⟩ := hsW
    obtain ⟨q, hq⟩ : ∃ q : Bool, (q = true ↔ ((⟨xb, xo, none⟩, xn) : Pk) ∈ bs) := ⟨decide (((⟨xb, xo, none⟩, xn) : Pk) ∈ bs), decide_eq_true_iff⟩
    have hqe : ∀ d : Decidable (((⟨xb, xo, none⟩, xn) : Pk) ∈ bs), @decide (((⟨xb, xo, none⟩, xn) : Pk) ∈ bs) d = q := by
      intro _
      cases q with
      | true => exact decide_eq_true (hq.1 rfl)
      | false => exact decide_eq_false fun h => by have := hq.2 h; cases this
    have HLK : Hid (∀ W', Below W.heap.size W W' → (Instr.lookup 48 (.map (some m)) (.agg #[.iface ptrT (.pointer (some ⟨xb, xo, none⟩)), .int .i64 (xn : Int)]) true).run Try.prog W' = .ok (.tuple #[.agg #[], .bool q]) W') := fun W' hB' => by
      have h9 := look_set Try.underlying48 zero_unit (fun b => check_place b W' ((⟨xb, xo, none⟩, xn) : Pk)) ((hB'.block m (heap_lt hmW)).trans hmW) (finds_place (plain_later (hplw _ hxp hxo) hB' (Nat.le_refl _)) hes fun b hb => plain_later (hplw _ (hbs b hb).1 (hbs b hb).2.1) hB' (Nat.le_refl _))
      rw [hqe] at h9
      exact h9
    have hbx0 := cell_of h.box0 0
    simp only [List.getElem?_toArray, List.getElem?_cons_zero] at hbx0
    have hw0 : w.heap.size < W.heap.size := by omega
    have HQ := hide hq
    have HOWN2 := hide hown2
    have HI := hide h
    have HOK := hide hok
    have HL := hide hl
    have HD := hide hd
    have HOWN := hide hown
    have hmd : ∀ w : World, (method 173 36 (.slice (some ⟨xb, xo, none⟩) xn xc) "loop.example/g00471/impl.place").run Try.prog w = .ok (13, (.slice (some ⟨xb, xo, none⟩) xn xc)) w := fun _ => by kernel_rfl
    clear h hok hl hd hown hown2 hplw hmW hes hq hqe hxm hxp hxo hxk
    gi_wp2
    refine wpIn_region_inv (fun L a' W' => ∃ l0 l1 l2 l3 l4 l5 l6 l7 l8 l9 l10 : Bool, L = #[l0, l1, l2, l3, l4, l5, l6, l7, l8, l9, l10] ∧ ∃ v8 v9 v12 v13 v14 v15 v16 v17 v18 v19 : Value, a' = { tmps := #[(.map (some m)), (.slice ov L0.length cv), (.func (.func gf) #[] lb), (.pointer (some ⟨w.heap.size, 0, none⟩)), (.pointer (some ⟨w.heap.size + 1, 0, none⟩)), undef, (.slice none 0 0), (.slice (some ⟨xb, xo, none⟩) xn xc), v8, v9, (.func (.func gf) #[] lb), (.slice (some ⟨xb, xo, none⟩) xn xc), v12, v13, v14, v15, v16, v17, v18, v19, undef, undef, undef, undef, undef, undef, undef], defers := [] } ∧ (l0 = true → v13 = .map (some m)) ∧ (l1 = true → v14 = (.slice (some ⟨xb, xo, none⟩) xn xc)) ∧ (l2 = true → v15 = .iface 36 (.slice (some ⟨xb, xo, none⟩) xn xc)) ∧ (l3 = true → v16 = .agg #[.iface ptrT (.pointer (some ⟨xb, xo, none⟩)), .int .i64 (xn : Int)]) ∧ (l4 = true → v17 = .tuple #[.agg #[], .bool q]) ∧ (l5 = true → v12 = .tuple #[.agg #[], .bool q]) ∧ (l6 = true → v18 = .agg #[]) ∧ (l7 = true → v19 = .bool q) ∧ (l8 = true → ∃ g, v8 = .pointer (some ⟨g, 0, none⟩) ∧ W.heap.size ≤ g ∧ W'.heap[g]? = some (.cells #[] 53 (0, 0))) ∧ (l10 = true → v9 = .bool q) ∧ Below W.heap.size W W') (by kernel_rfl) (by kernel_rfl) ?_ ?_ ?_
    · exact ⟨false, false, false, false, false, false, false, false, false, false, false, rfl, _, _, _, _, _, _, _, _, _, _, rfl, (fun h => by cases h), (fun h => by cases h), (fun h => by cases h), (fun h => by cases h), (fun h => by cases h), (fun h => by cases h), (fun h => by cases h), (fun h => by cases h), (fun h => by cases h), (fun h => by cases h), (Below.refl _ _).drew⟩
    · rintro L a' W' hsz ⟨l0, l1, l2, l3, l4, l5, l6, l7, l8, l9, l10, rfl, v8, v9, v12, v13, v14, v15, v16, v17, v18, v19, rfl, c0, c1, c2, c3, c4, c5, c6, c7, c8, c10, hB⟩ i hi
      have hlt9 : i < 11 := ready_lt hi
      have hcase : i = 0 ∨ i = 1 ∨ i = 2 ∨ i = 3 ∨ i = 4 ∨ i = 5 ∨ i = 6 ∨ i = 7 ∨ i = 8 ∨ i = 9 ∨ i = 10 := by omega
      rcases hcase with rfl | rfl | rfl | rfl | rfl | rfl | rfl | rfl | rfl | rfl | rfl
      · clear hi
        have z0 := (hB.cell (p := ⟨w.heap.size, 0, none⟩) hw0).trans hbx0
        refine wpOpIn_step rfl (fun K hK => ?_)
        go_simp
        refine hK _ _ ⟨true, l1, l2, l3, l4, l5, l6, l7, l8, l9, l10, rfl, _, _, _, _, _, _, _, _, _, _, rfl, (fun _ => rfl), c1, c2, c3, c4, c5, c6, c7, c8, c10, hB⟩
      · clear hi
        refine wpOpIn_step rfl (fun K hK => ?_)
        go_simp
        refine hK _ _ ⟨l0, true, l2, l3, l4, l5, l6, l7, l8, l9, l10, rfl, _, _, _, _, _, _, _, _, _, _, rfl, c0, (fun _ => rfl), c2, c3, c4, c5, c6, c7, c8, c10, hB⟩
      · have d1 : l1 = true := ready_dep 1 hi (by kernel_rfl)
        obtain rfl : v14 = (.slice (some ⟨xb, xo, none⟩) xn xc) := c1 d1
        clear hi
        refine wpOpIn_step rfl (fun K hK => ?_)
        go_simp
        refine hK _ _ ⟨l0, l1, true, l3, l4, l5, l6, l7, l8, l9, l10, rfl, _, _, _, _, _, _, _, _, _, _, rfl, c0, c1, (fun _ => rfl), c3, c4, c5, c6, c7, c8, c10, hB⟩
      · have d2 : l2 = true := ready_dep 2 hi (by kernel_rfl)
        obtain rfl : v15 = .iface 36 (.slice (some ⟨xb, xo, none⟩) xn xc) := c2 d2
        clear hi
        refine wpOpIn_step rfl (fun K hK => ?_)
        go_simp
        first | refine ⟨trivial, (fun h => by cases h), ?_⟩ | refine ⟨(fun h => by cases h), ?_⟩ | refine ⟨trivial, ?_⟩
        refine ((callsIn_wide (n := 0)).2 (place_any xb xo xn xc hn0 hnm hnc W')).mono ?_
        rintro e w1 ⟨rfl, hb⟩
        refine hK _ _ ⟨l0, l1, l2, true, l4, l5, l6, l7, l8, l9, l10, rfl, _, _, _, _, _, _, _, _, _, _, rfl, c0, c1, c2, (fun _ => rfl), c4, c5, c6, c7, (fun e8 => by obtain ⟨g, h1, h2, h3⟩ := c8 e8; exact ⟨g, h1, h2, (hb.block g (heap_lt h3)).trans h3⟩), c10, (hB.trans (hb.mono hB.size))⟩
      · have d0 : l0 = true := ready_dep 0 hi (by kernel_rfl)
        have d3 : l3 = true := ready_dep 3 hi (by kernel_rfl)
        obtain rfl : v13 = .map (some m) := c0 d0
        obtain rfl : v16 = .agg #[.iface ptrT (.pointer (some ⟨xb, xo, none⟩)), .int .i64 (xn : Int)] := c3 d3
        clear hi
        have hlk := HLK.out W' hB
        refine wpOpIn_step rfl (fun K hK => ?_)
        go_simp
        refine hK _ _ ⟨l0, l1, l2, l3, true, l5, l6, l7, l8, l9, l10, rfl, _, _, _, _, _, _, _, _, _, _, rfl, c0, c1, c2, c3, (fun _ => rfl), c5, c6, c7, c8, c10, hB⟩
      · have d4 : l4 = true := ready_dep 4 hi (by kernel_rfl)
        obtain rfl : v17 = .tuple #[.agg #[], .bool q] := c4 d4
        clear hi
        refine wpOpIn_step rfl (fun K hK => ?_)
        go_simp
        refine hK _ _ ⟨l0, l1, l2, l3, l4, true, l6, l7, l8, l9, l10, rfl, _, _, _, _, _, _, _, _, _, _, rfl, c0, c1, c2, c3, c4, (fun _ => rfl), c6, c7, c8, c10, hB⟩
      · have d5 : l5 = true := ready_dep 5 hi (by kernel_rfl)
        obtain rfl : v12 = .tuple #[.agg #[], .bool q] := c5 d5
        clear hi
        refine wpOpIn_step rfl (fun K hK => ?_)
        go_simp
        refine hK _ _ ⟨l0, l1, l2, l3, l4, l5, true, l7, l8, l9, l10, rfl, _, _, _, _, _, _, _, _, _, _, rfl, c0, c1, c2, c3, c4, c5, (fun _ => rfl), c7, c8, c10, hB⟩
      · have d5 : l5 = true := ready_dep 5 hi (by kernel_rfl)
        obtain rfl : v12 = .tuple #[.agg #[], .bool q] := c5 d5
        clear hi
        refine wpOpIn_step rfl (fun K hK => ?_)
        go_simp
        refine hK _ _ ⟨l0, l1, l2, l3, l4, l5, l6, true, l8, l9, l10, rfl, _, _, _, _, _, _, _, _, _, _, rfl, c0, c1, c2, c3, c4, c5, c6, (fun _ => rfl), c8, c10, hB⟩
      · clear hi
        have hb : Below W'.heap.size W' (W'.alloc (.cells #[] 53)) := (Below.refl _ _).alloc (Nat.le_refl _) _
        refine wpOpIn_step rfl (fun K hK => ?_)
        go_simp
        refine hK _ _ ⟨l0, l1, l2, l3, l4, l5, l6, l7, true, l9, l10, rfl, _, _, _, _, _, _, _, _, _, _, rfl, c0, c1, c2, c3, c4, c5, c6, c7, (fun _ => ⟨_, rfl, hB.size, heap_alloc_new W' _⟩), c10, (hB.trans (hb.mono hB.size))⟩
      · have d8 : l8 = true := ready_dep 8 hi (by kernel_rfl)
        have d6 : l6 = true := ready_dep 6 hi (by kernel_rfl)
        obtain rfl : v18 = .agg #[] := c6 d6
        clear hi
        obtain ⟨g, rfl, hg1, hg2⟩ := c8 d8
        have hg3 := cell_of hg2
        refine wpOpIn_step rfl (fun K hK => ?_)
        go_simp
        refine hK _ _ ⟨l0, l1, l2, l3, l4, l5, l6, l7, l8, true, l10, rfl, _, _, _, _, _, _, _, _, _, _, rfl, c0, c1, c2, c3, c4, c5, c6, c7, c8, c10, hB⟩
      · have d7 : l7 = true := ready_dep 7 hi (by kernel_rfl)
        obtain rfl : v19 = .bool q := c7 d7
        clear hi
        refine wpOpIn_step rfl (fun K hK => ?_)
        go_simp
        refine hK _ _ ⟨l0, l1, l2, l3, l4, l5, l6, l7, l8, l9, true, rfl, _, _, _, _, _, _, _, _, _, _, rfl, c0, c1, c2, c3, c4, c5, c6, c7, c8, (fun _ => rfl), hB⟩
    · rintro L a' W2 hsz ⟨l0, l1, l2, l3, l4, l5, l6, l7, l8, l9, l10, rfl, v8, v9, v12, v13, v14, v15, v16, v17, v18, v19, rfl, c0, c1, c2, c3, c4, c5, c6, c7, c8, c10, hB⟩ hall
      have e0 : l0 = true := hall 0 (by show 0 < 11; omega)
      obtain rfl : v13 = .map (some m) := c0 e0
      have e1 : l1 = true := hall 1 (by show 1 < 11; omega)
      obtain rfl : v14 = (.slice (some ⟨xb, xo, none⟩) xn xc) := c1 e1
      have e2 : l2 = true := hall 2 (by show 2 < 11; omega)
      obtain rfl : v15 = .iface 36 (.slice (some ⟨xb, xo, none⟩) xn xc) := c2 e2
      have e3 : l3 = true := hall 3 (by show 3 < 11; omega)
      obtain rfl : v16 = .agg #[.iface ptrT (.pointer (some ⟨xb, xo, none⟩)), .int .i64 (xn : Int)] := c3 e3
      have e4 : l4 = true := hall 4 (by show 4 < 11; omega)
      obtain rfl : v17 = .tuple #[.agg #[], .bool q] := c4 e4
      have e5 : l5 = true := hall 5 (by show 5 < 11; omega)
      obtain rfl : v12 = .tuple #[.agg #[], .bool q] := c5 e5
      have e6 : l6 = true := hall 6 (by show 6 < 11; omega)
      obtain rfl : v18 = .agg #[] := c6 e6
      have e7 : l7 = true := hall 7 (by show 7 < 11; omega)
      obtain rfl : v19 = .bool q := c7 e7
      have e10 : l10 = true := hall 10 (by show 10 < 11; omega)
      obtain rfl : v9 = .bool q := c10 e10
      clear hall c0 c1 c2 c3 c4 c5 c6 c7 c8 c10
      have HI2 := hide (HI.out.later hB)
      have HB2 := hide hB
      have hs2 : W.heap.size ≤ W2.heap.size := hB.size
      have hbx := cell_of HI2.out.box 0
      have hfx := frozen_of HI2.out.box 0
      simp only [List.getElem?_toArray, List.getElem?_cons_zero] at hbx
      clear hB hbx0 HLK hw0 l9 hsz
      have hsz : ((w.alloc (.cells #[.map (some m)] 48)).alloc (.cells #[.slice ov L0.length cv] 46)).heap.size = w.heap.size + 2 := by simp
      cases q
      · have hnk : ((⟨xb, xo, none⟩, xn) : Pk) ∉ bs := fun h => by have := HQ.out.2 h; cases this
        have HFR : Hid (fresh bs (pre ++ [(⟨some ⟨xb, xo, none⟩, xn, xc⟩ : Rl)]) = fresh bs pre ++ [(⟨some ⟨xb, xo, none⟩, xn, xc⟩ : Rl)]) := by
          have := fresh_snoc bs pre ⟨some ⟨xb, xo, none⟩, xn, xc⟩
          rw [if_neg (show pk (⟨some ⟨xb, xo, none⟩, xn, xc⟩ : Rl) ∉ bs from hnk)] at this
          exact this
        have hfl := fresh_len bs pre
        have hrw : RlRow B (W2.alloc (.cells #[.slice (some ⟨xb, xo, none⟩) xn xc] 36)) v (L0 ++ (fresh bs pre).map valR) := ORow.keep HI2.out.row fun g hg => Below.heap_alloc W2 _ g (Nat.lt_of_lt_of_le (HOWN.out g hg) hs2)
        have HRW := hide hrw
        have HNOT : Hid (∀ k, (k = w.heap.size ∨ k = w.heap.size + 1 ∨ k = w.heap.size + 2 ∨ k = w.heap.size + 3) → some k ≠ v.ownBlock) := fun k hk e => by
          have := HOWN2.out k e.symm
          omega
        clear hrw hnk
        have hBW2 : B ≤ W2.heap.size := by omega
        gi_wp2_with (gi_at_builtin; refine wpListIn_append_own_at _ rfl _ _ 46 rfl B 36 _ (.slice none 0 0) 1 24 Try.underlying46 rfl rfl rfl rfl rfl (by decide) v _ (L0 ++ (fresh bs pre).map valR) rfl HRW.out ⟨W2.heap.size, 0, none⟩ 1 1 [.slice (some ⟨xb, xo, none⟩) xn xc] rfl rfl (fun j y hj => by cases j with | zero => (simp at hj; subst hj; exact cell_of (heap_alloc_new W2 _) 0) | succ j => simp at hj) (fun y hy => by rw [List.mem_singleton.1 hy]; rfl) (by unfold maxLen; simp; omega) (by simp; omega) (Nat.le_trans hBW2 (by simp)) ?_; intro v2 w2 h2 h3 h4 h5; rw [List.length_append, List.length_map] at h2; obtain ⟨o2, c2, rfl⟩ := owns_form h2; have HR := hide h2; have HG := hide h3; have HOB := hide h5; have x2 := (World.cell?_of_block (a := ⟨w.heap.size + 1, 0, none⟩) ((h3.block (w.heap.size + 1) (by simp; omega) (HNOT.out _ (.inr (.inl rfl)))).trans (Below.heap_alloc W2 _ _ (by omega)))).trans hbx; have f2 := (World.frozen?_of_block (a := ⟨w.heap.size + 1, 0, none⟩) ((h3.block (w.heap.size + 1) (by simp; omega) (HNOT.out _ (.inr (.inl rfl)))).trans (Below.heap_alloc W2 _ _ (by omega)))).trans hfx; clear h2 h3 h4 h5)
        generalize hN9 : L0.length + (fresh bs pre).length + 1 = N9 at *
        generalize hV2 : Value.slice o2 N9 c2 = v2 at *
        have hgb : ∀ k, k < W.heap.size → some k ≠ v.ownBlock → (w2.setCell ⟨w.heap.size + 1, 0, none⟩ v2).heap[k]? = if k = w.heap.size + 1 then some (.cells #[v2] 46 (0, 0)) else W.heap[k]? := by
          intro k hk ho
          have hkb := (HG.out.block k (by simp; omega) ho).trans (Below.heap_alloc W2 _ _ (Nat.lt_of_lt_of_le hk hs2))
          by_cases e : k = w.heap.size + 1
          · subst e
            rw [if_pos rfl]
            exact heap_set_same v2 (hkb.trans HI2.out.box)
          · rw [if_neg e]
            exact (heap_set_other v2 e).trans (hkb.trans (HB2.out.block k hk))
        have hsz2 : W2.heap.size + 1 ≤ w2.heap.size := by have := HG.out.size; simpa using this
        refine ⟨⟨?_, ?_⟩, ⟨v2, ?_, ?_, ?_, fun g hg => ?_, HI.out.npr0, HI.out.npr, ?_, HOK.out⟩, ?_, fun k hk hlk => ?_⟩
        · rw [hsz, hgb _ (by omega) (HNOT.out _ (.inr (.inr (.inl rfl)))), if_neg (by omega)]
        · rw [hsz, hgb _ (by omega) (HNOT.out _ (.inr (.inr (.inr rfl)))), if_neg (by omega)]
        · rw [hgb _ (by omega) (HNOT.out _ (.inl rfl)), if_neg (by omega)]
          exact HI.out.box0
        · rw [hgb _ (by omega) (HNOT.out _ (.inr (.inl rfl))), if_pos rfl]
        · have h9 : RlRow B w2 v2 (L0 ++ (fresh bs (pre ++ [(⟨some ⟨xb, xo, none⟩, xn, xc⟩ : Rl)])).map valR) := by
            have h8 := HR.out
            unfold RlRow ORow
            rw [HFR.out, List.map_append, ← List.append_assoc, List.map_cons, List.map_nil]
            rw [show (L0 ++ (fresh bs pre).map valR ++ [valR (⟨some ⟨xb, xo, none⟩, xn, xc⟩ : Rl)]).length = N9 by simp; omega]
            exact h8
          refine ORow.keep h9 fun g hg => heap_set_other v2 fun e => ?_
          rcases HOB.out with h1 | h1
          · rw [h1] at hg
            exact (HOWN2.out g hg).2.1 e
          · rw [h1] at hg
            have h2 := Option.some.inj hg
            simp at h2
            omega
        · rcases HOB.out with h1 | h1
          · rw [h1] at hg
            exact HI.out.own g hg
          · rw [h1] at hg
            have h2 := Option.some.inj hg
            simp at h2
            refine ⟨.inr (by omega), fun hq => ?_⟩
            have := hPl _ hq
            omega
        · have h1 := HI2.out.grew
          have h2 := HG.out
          refine ⟨?_, ?_, ?_, ?_, fun k hk ho => ?_⟩
          · show w2.os = w.os
            exact h2.os.trans h1.os
          · show w2.tape = w.tape
            exact h2.tape.trans h1.tape
          · show w2.output = w.output
            exact h2.output.trans h1.output
          · simp
            have := h1.size
            omega
          · rw [hgb k (Nat.lt_of_lt_of_le hk HI.out.grew.size) (fun e => ?_), if_neg (by omega)]
            · exact HI.out.grew.block k hk ho
            · rcases (HI.out.own k e.symm).1 with h3 | h3
              · exact ho h3
              · omega
        · simp
          omega
        · rw [hgb k hlk (fun e => (HI.out.own k e.symm).2 hk), if_neg (fun e => HI.out.npr (by rw [← e]; exact hk))]
      · have hnk : ((⟨xb, xo, none⟩, xn) : Pk) ∈ bs := HQ.out.1 rfl
        have HFR : Hid (fresh bs (pre ++ [(⟨some ⟨xb, xo, none⟩, xn, xc⟩ : Rl)]) = fresh bs pre) := by
          have := fresh_snoc bs pre ⟨some ⟨xb, xo, none⟩, xn, xc⟩
          rw [if_pos (show pk (⟨some ⟨xb, xo, none⟩, xn, xc⟩ : Rl) ∈ bs from hnk), List.append_nil] at this
          exact this
        clear hnk hbx hfx
        gi_wp2
        have h2 := HI2.out
        refine ⟨⟨?_, ?_⟩, ⟨v, h2.box0, h2.box, ?_, h2.own, h2.npr0, h2.npr, h2.grew, HOK.out⟩, KeptP.of HB2.out |>.less (fun k h => h)⟩
        · try rw [hsz]
          exact HB2.out.block _ (by omega)
        · try rw [hsz]
          exact HB2.out.block _ (by omega)
        · rw [HFR.out]; exact h2.row
  case done =>
    rintro ys W rfl ⟨v, h⟩ hd
    rw [hsz] at hd
    have hbx := cell_of h.box 0
    have hfx := frozen_of h.box 0
    simp only [List.getElem?_toArray, List.getElem?_cons_zero] at hbx
    have HI := hide h
    have HD := hide hd
    clear h hd
    gi_wp2
    have hsz' := hsz
    refine ⟨by simp, .inl ⟨_, _, rfl, run_takeDeferred (by rw [hsz]; exact HD.out), _, results_tmp rfl _ _ _, v, rfl, ?_, fun g hg => ?_, ?_⟩⟩
    · refine ORow.keep HI.out.row fun g hg => World.putObj_heap_other fun e => ?_
      rw [hsz] at e
      rcases (HI.out.own g hg).1 with h1 | h1
      · have := hvo g h1
        omega
      · omega
    · rcases (HI.out.own g hg).1 with h1 | h1
      · exact .inl h1
      · exact .inr (by omega)
    · have h1 := HI.out.grew
      refine ⟨h1.os, h1.tape, h1.output, ?_, fun k hk ho => ?_⟩
      · simpa [World.putObj] using h1.size
      · exact (World.putObj_heap_other (by rw [hsz]; omega)).trans (h1.block k hk ho)
  case stop =>
    rintro c pre W h _
    exact h.elim
end Go.Proofs.Ytifambhfggodaaa.Rs
