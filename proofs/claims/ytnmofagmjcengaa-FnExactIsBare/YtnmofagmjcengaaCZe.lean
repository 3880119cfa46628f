/- The program's listsFrom, walked (made by genCZe.py). -/
import Derived.Test.YtnmofagmjcengaaCZd
namespace Go.Proofs.Ytnmofagmjcengaa.Br
open Go.ChangeShapes Go.WideShapes Go.ChangeAt Go.RowKit Go.Shelf Go.Proofs.Ytnmofagmjcengaa.It Go.Proofs.Ytnmofagmjcengaa.Vo
attribute [local go_sem] Oper.semAt_some
set_option linter.unusedVariables false

theorem start_inv {K : Nat → Prop} {w0 W : World} {root : Ls} {Bs n : Nat} {J : List Ls → (Nat → Prop) → World → Prop} (hJ : Stab W.heap.size J) (h0 : J [] (fun k => K k ∨ k = Bs) W) (hK : ∀ k, K k → k < W.heap.size) (hB : Bs < W.heap.size) (hwt : WtL K w0 [root] n) (h1 : valL root = .iface (tyOf root.i) (.slice root.o root.n root.c)) :
    LInv K w0 root Bs W.heap.size J W (.slice (some ⟨W.heap.size + 1, 0, none⟩) 1 1) [root] [] [] n ((W.alloc (.map #[] 0)).alloc (.cells #[.iface (tyOf root.i) (.slice root.o root.n root.c)] 52)) := by
  have hb : Below W.heap.size W ((W.alloc (.map #[] 0)).alloc (.cells #[.iface (tyOf root.i) (.slice root.o root.n root.c)] 52)) := ((Below.refl _ W).alloc (Nat.le_refl _) _).alloc (by simp) _
  have hm : ((W.alloc (.map #[] 0)).alloc (.cells #[.iface (tyOf root.i) (.slice root.o root.n root.c)] 52)).heap[W.heap.size]? = some (.map #[] 0) := (Below.heap_alloc _ _ _ (by simp)).trans (heap_alloc_new W _)
  refine ⟨hJ _ _ _ _ _ (Chg.of hb (Nat.le_refl _)) (Nat.le_refl _) (fun k hk => ?_) h0, ?_, ⟨_, _, hm, rfl, fun e he => by simp at he⟩, KeptP.of hb, hwt, fun x hx => by rw [List.mem_singleton.1 hx]; exact id, fun k hk => (by cases hk), fun z hz => (by cases hz), fun z hz => (by cases hz), .inr ⟨root, by simp, rfl⟩⟩
  · rcases hk with hk | hk | hk
    · exact .inl hk
    · exact .inr (by rw [hk]; exact Nat.le_refl _)
    · have h9 : W.heap.size + 1 = k := Option.some.inj hk
      exact .inr (by omega)
  · refine ⟨rfl, .inr ⟨W.heap.size + 1, 1, _, rfl, by omega, heap_alloc2_new W _ _, by simp, by unfold maxLen; omega, rfl, rfl⟩⟩

set_option maxRecDepth 100000 in
set_option maxHeartbeats 8000000 in
theorem listsFrom_of (K : Nat → Prop) (w0 w : World) (root : Ls) (h Bs : Nat) (xs : List Tr) (hw0 : w0.heap.size ≤ w.heap.size) (hb1 : ∀ b, K b → w.heap[b]? = w0.heap[b]?) (hK : ∀ k, K k → k < w0.heap.size ∧ PlainAt w0 ⟨k, 0, none⟩) (hr : Rd K w0 h root xs) (hwt : lw (wtI h root.i) xs ≤ 10000000) (hBl : w0.heap.size ≤ Bs ∧ Bs < w.heap.size) (hBs : w.cell? ⟨Bs, 0, none⟩ = some (.iface (tyOf root.i) (.slice root.o root.n root.c))) :
    SeqOf Try.prog 25 #[.pointer (some ⟨Bs, 0, none⟩)] (fun x => #[valL x]) (fun k => K k ∨ k = Bs) (fun _ x => Sub K w0 root x) (fun ys => Closed w0 root ys) w := by
  intro n9 l J Jx W hW hJ hY h0
  have hmm := @run_makeMap Try.prog
  have hbB : W.cell? ⟨Bs, 0, none⟩ = some (.iface (tyOf root.i) (.slice root.o root.n root.c)) := (hW.cell (p := ⟨Bs, 0, none⟩) hBl.2).trans hBs
  have hKW : Hid (∀ k, K k → W.heap[k]? = w0.heap[k]?) := fun k hk => (hW.block k (Nat.lt_of_lt_of_le (hK k hk).1 hw0)).trans (hb1 k hk)
  have hKl : Hid (∀ k, K k → k < w0.heap.size) := fun k hk => (hK k hk).1
  have hKp : Hid (∀ k, K k → PlainAt w0 ⟨k, 0, none⟩) := fun k hk => (hK k hk).2
  have hN0 : w0.heap.size ≤ W.heap.size := Nat.le_trans hw0 hW.size
  have hBW : Bs < W.heap.size := Nat.lt_of_lt_of_le hBl.2 hW.size
  have hKN : Hid (∀ k, (K k ∨ k = Bs) → k < W.heap.size) := fun k hk => by
    rcases hk with hk | hk
    · have := (hK k hk).1
      omega
    · omega
  have HINV := hide (start_inv (K := K) (w0 := w0) (Bs := Bs) (n := lw (wtI h root.i) xs) hJ h0 (fun k hk => Nat.lt_of_lt_of_le (hK k hk).1 hN0) hBW ⟨h, xs, 0, hr, Nat.le_refl _, trivial⟩ rfl)
  have HY : Hid (Yds l W.heap.size J Jx (fun _ x => Sub K w0 root x)) := fun m pre x Pr W1 h1 h2 h3 h4 => hY m pre x Pr W1 h1 h2 h3 h4
  have HJ := hide hJ
  obtain ⟨mu, hmu⟩ := least_any (α := Value × World) (fun n q => ∃ v left ys ks, q.1 = v ∧ LInv K w0 root Bs W.heap.size J W v left ys ks n q.2 ∧ n ≤ 10000000)
  have HMU := hide hmu
  have HWT := hide hwt
  have hB1 := hBl.1
  clear hY hJ h0 hr hBs hb1 hK hw0 hW hmu hwt hBl
  refine callsIn_of_wp Try.func25 rfl trivial ?_ rfl
  simp only [Try.ntmps25, List.size_toArray, List.length_cons, List.length_nil, Nat.reduceAdd, Nat.reduceSub, Array.replicate_succ, Array.replicate_zero, List.push_toArray, List.append_toArray, List.nil_append, List.cons_append]
  gi_wp2
  clear hmm hbB
  gi_loopw [4] (fun t4 wr => ∃ n v left ys ks, t4 = v ∧ LInv K w0 root Bs W.heap.size J W v left ys ks n wr ∧ n ≤ 10000000) (fun t4 wr => mu (t4, wr))
  case atStart => exact ⟨_, _, _, _, _, rfl, HINV.out, HWT.out⟩
  case round =>
    obtain ⟨n1, v1, l1, y1, k1, e1, i1, b1⟩ := hrel
    obtain ⟨⟨v, left, ys, ks, hv, hinv, hnb⟩, hle⟩ := HMU.out (u4, wr) n1 ⟨v1, l1, y1, k1, e1, i1, b1⟩
    dsimp only at hinv
    generalize hmm : mu (u4, wr) = n at hinv hnb hle
    have HMM := hide hmm
    clear hmm hle e1 i1 b1
    dsimp only at hv
    subst hv
    rcases List.eq_nil_or_concat left with rfl | ⟨left0, x, hcat⟩
    · obtain ⟨oo, cap, rfl, -, -⟩ := ORow.form hinv.row
      have HI := hide hinv
      clear hinv
      simp only [List.map_nil, List.length_nil]
      gi_wp2
      go_end0
      refine ⟨⟨_, rfl⟩, .inl ⟨ys, ⟨?_, fun z hz y hy => ?_⟩, ?_⟩⟩
      · rcases HI.out.root with h1 | ⟨u, hu, -⟩
        · exact h1
        · cases hu
      · rcases HI.out.clo z hz y hy with h1 | ⟨u, hu, -⟩
        · exact h1
        · cases hu
      · exact HJ.out _ _ _ _ _ (Chg.refl _ _ _) HI.out.keep.1 (fun k hk => .inl (.inl hk)) HI.out.j
    · rw [List.concat_eq_append] at hcat
      subst hcat
      have HR0 := hinv.row
      rw [List.map_append, List.map_cons, List.map_nil] at HR0
      obtain ⟨g, cap, rfl, hcp, hcm, hlast, hpop⟩ := ORow.last HR0
      rw [List.length_map] at hcp hlast hpop hinv HMM ⊢
      obtain ⟨hgN, cur, hgc⟩ := ORow.own hinv.row (g := g) rfl
      obtain ⟨a0, b0, hwl, ⟨hx, zs, q9, hrx, hqx, -⟩, hab⟩ := hinv.wt.split
      have HWL := hide hwl
      clear hwl
      have hll : left0.length ≤ 10000000 := by have h1 := hinv.wt.len; rw [List.length_append] at h1; simp at h1; omega
      obtain ⟨i, o, n5, c5⟩ := x
      obtain ⟨b, off, eo, kb, hbl, -⟩ := hrx.at
      simp only at eo
      subst eo
      have hn0 : n5 ≠ 0 := by have h1 := hrx.2.2.1; have h2 := List.length_pos_iff.2 hrx.2.1; simp only at h1; omega
      have hnm : n5 ≤ maxLen := by have h1 := hrx.2.2.1; have h2 := hrx.2.2.2.1.1; simp only at h1; omega
      have hnc : n5 ≤ c5 := by have h1 := hrx.2.2.1; have h2 := hrx.2.2.2.1.2; simp only at h1 h2; omega
      have hcases : i = 0 ∨ i = 1 ∨ i = 2 := by have := hrx.1; simp only at this; omega
      have HI := hide hinv
      have HPOP := hide hpop
      have HRX := hide hrx
      have HQX := hide hqx
      have hgm : g ≠ W.heap.size := fun e => by
        obtain ⟨es, c9, hm9, -⟩ := HI.out.set
        rw [e, hm9] at hgc
        cases hgc
      have hw1 : IntKind.i64.wrap (((left0.length + 1 : Nat) : Int) - 1) = left0.length := by rw [IntKind.wrap_i64]; omega
      have hw2 : (left0.length : Int) ≤ cap := by omega
      have hcm' : cap ≤ 9223372036854775807 := hcm
      clear hinv hpop hrx hqx hgc hcm HR0
      rcases hcases with rfl | rfl | rfl
      · have q0 : wr.cell? ⟨g, left0.length, none⟩ = some (.iface 50 (.slice (some ⟨b, off, none⟩) n5 c5)) := hlast
        clear hlast
        have hmd : ∀ w : World, (method 212 50 (.slice (some ⟨b, off, none⟩) n5 c5) "loop.example/g00471/impl.place").run Try.prog w = .ok (52, (.slice (some ⟨b, off, none⟩) n5 c5)) w := fun _ => by kernel_rfl
        have hmd2 : ∀ w : World, (method 212 50 (.slice (some ⟨b, off, none⟩) n5 c5) "loop.example/g00471/impl.within").run Try.prog w = .ok (53, (.slice (some ⟨b, off, none⟩) n5 c5)) w := fun _ => by kernel_rfl
        gi_wp2_with fail
        first | refine ⟨trivial, (fun h => by cases h), ?_⟩ | refine ⟨(fun h => by cases h), ?_⟩ | refine ⟨trivial, ?_⟩
        refine ((callsIn_wide (n := n9 - 1)).2 (place_0 b off n5 c5 hn0 hnm hnc wr)).mono ?_
        rintro e w1 ⟨rfl, hb⟩
        have hblk : ∀ k, K k → w1.heap[k]? = w0.heap[k]? := fun k hk => (hb.block k (Nat.lt_of_lt_of_le (Nat.lt_of_lt_of_le (hKl.out k hk) hN0) HI.out.keep.1)).trans ((HI.out.keep.2 k (.inl hk) (Nat.lt_of_lt_of_le (hKl.out k hk) hN0)).trans (hKW.out k hk))
        have hpl : ∀ k p, K k → PlainAt w1 ⟨k, p, none⟩ := fun k p hk => by
          obtain ⟨c, e, h9⟩ := hKp.out k hk
          exact ⟨c, e, (hblk k hk).trans h9⟩
        have hps : ∀ q ∈ ks, q.1 < 3 ∧ PlainAt w1 q.2.1 := fun q hq => by
          obtain ⟨z, hz, rfl⟩ := HI.out.seen q hq
          obtain ⟨⟨hz', zz, hrz, -⟩, -⟩ := HI.out.done z hz
          obtain ⟨bz, oz, eoz, kz, -⟩ := hrz.at
          refine ⟨hrz.1, ?_⟩
          show PlainAt w1 (z.o.getD ⟨0, 0, none⟩)
          rw [eoz]
          exact hpl bz oz kz
        have HF := hide ((callsIn_wide (n := n9 - 1)).2 (isFirst_place W.heap.size (0, ⟨b, off, none⟩, n5) (by show (0 : Nat) < 3; omega) ks w1 (HI.out.set.keep (hb.block _ (SetAt.lt HI.out.set))) (hpl b off kb) hps))
        have HB := hide hb
        clear hblk hpl hps hb
        gi_wp2_with fail
        first | refine ⟨trivial, (fun h => by cases h), ?_⟩ | refine ⟨(fun h => by cases h), ?_⟩ | refine ⟨trivial, ?_⟩
        refine HF.out.mono ?_
        rintro e w2 ⟨⟨q, rfl, hq⟩, hs2, ho2⟩
        obtain ⟨j2, kp2, gk2, pl2⟩ := HI.out.upto HJ.out hKN.out HB.out ho2
        have HS2 := hide hs2
        have HJ2 := hide j2
        have HK2 := hide kp2
        have HP2 := hide pl2
        have HG2 := hide (gk2 g rfl)
        have HQ := hide hq
        clear hs2 ho2 j2 kp2 gk2 pl2 hq HB HF q0
        cases q
        · have HSUB : Hid (Sub K w0 root (⟨0, some ⟨b, off, none⟩, n5, c5⟩ : Ls)) := ⟨⟨hx, zs, HRX.out, by show lw (wtI hx 0) zs ≤ 10000000; have := HQX.out; omega⟩, HI.out.sub _ (by simp)⟩
          obtain ⟨f9, t9, a9, d9, y9, r9⟩ := HY.out (n9 - 1) ys (⟨0, some ⟨b, off, none⟩, n5, c5⟩ : Ls) _ w2 HJ2.out HSUB.out HK2.out.1 HP2.out
          change (Instr.yield l #[.iface 50 (.slice (some ⟨b, off, none⟩) n5 c5)]).run Try.prog _ = _ at y9
          have R9 := hide r9
          clear r9
          gi_wp2
          refine ⟨(fun h => by cases h), R9.out.mono ?_⟩
          rintro e V (⟨rfl, j3, k3⟩ | ⟨rfl, x3⟩)
          · have hml2 : W.heap.size < w2.heap.size := SetAt.lt HS2.out
            have hgl2 : g < w2.heap.size := HP2.out g (.inr (.inr rfl))
            have hsV := HS2.out.keep (k3.2 W.heap.size (.inr (.inl rfl)) hml2)
            have hkV : KeptP (fun k => K k ∨ k = Bs) W V := HK2.out.trans (k3.less fun k hk => .inl hk)
            have hrV : ListedRow W.heap.size V (.slice (some ⟨g, 0, none⟩) left0.length cap) (left0.map valL) := ORow.keep HPOP.out fun g' hg' => by
              cases hg'
              exact (k3.2 g (.inr (.inr rfl)) hgl2).trans HG2.out
            have hgV : g < V.heap.size := Nat.lt_of_lt_of_le hgl2 k3.1
            have hNV : W.heap.size ≤ V.heap.size := hkV.1
            have hKV : ∀ k, K k → (V.alloc (.cells #[(.slice (some ⟨b, off, none⟩) n5 c5)] 50)).heap[k]? = w0.heap[k]? := fun k hk => (Below.heap_alloc V _ k (Nat.lt_of_lt_of_le (Nat.lt_of_lt_of_le (hKl.out k hk) hN0) hNV)).trans ((hkV.2 k (.inl hk) (Nat.lt_of_lt_of_le (hKl.out k hk) hN0)).trans (hKW.out k hk))
            have HWI := hide (within_0 K w0 (V.alloc (.cells #[(.slice (some ⟨b, off, none⟩) n5 c5)] 50)) hx V.heap.size (some ⟨b, off, none⟩) n5 c5 zs (by simp; omega) hKV hKl.out HRX.out hnm (by simp; omega) (cell_of (heap_alloc_new V _) 0))
            have hkl : left0.length + (kids w0 (⟨0, some ⟨b, off, none⟩, n5, c5⟩ : Ls)).length ≤ 10000000 := by
              have h1 := (HRX.out.kids).1.len
              have h2 := (HRX.out.kids).2
              have h3 := HQX.out
              have h4 := HWL.out.len
              simp only at h1 h2
              omega
            have hk1 : ∀ k, (K k ∨ k = V.heap.size) → k < (V.alloc (.cells #[(.slice (some ⟨b, off, none⟩) n5 c5)] 50)).heap.size := fun k hk => by
              simp only [World.size_alloc]
              rcases hk with hk | hk
              · have := hKl.out k hk
                omega
              · omega
            have hk2 : ∀ q, (Value.slice (some ⟨g, 0, none⟩) left0.length cap).ownBlock = some q → ¬ (K q ∨ q = V.heap.size) := fun q hq hk => by
              have hqg : g = q := Option.some.inj hq
              subst hqg
              rcases hk with hk | hk
              · have := hKl.out g hk
                omega
              · omega
            have HA := hide ((callsIn_wide (n := n9 - 1)).2 (appendSeq_any (gf := 55) (lb := #[.pointer (some ⟨V.heap.size, 0, none⟩)]) (V.alloc (.cells #[(.slice (some ⟨b, off, none⟩) n5 c5)] 50)) (.slice (some ⟨g, 0, none⟩) left0.length cap) (left0.map valL) W.heap.size (ORow.keep hrV fun g' hg' => by cases hg'; exact Below.heap_alloc V _ g hgV) (by simp; omega) (fun k => K k ∨ k = V.heap.size) hk1 hk2 (kids w0 (⟨0, some ⟨b, off, none⟩, n5, c5⟩ : Ls)) HWI.out (enters_of Try.func55 (by kernel_rfl) rfl) (by rw [List.length_map]; exact hkl)))
            have HJ3 := hide j3
            have HSV := hide hsV
            have HKV := hide hkV
            clear j3 k3 hsV hkV hrV hKV hkl y9 R9 HWI hk1 hk2
            gi_wp2_with fail
            first | refine ⟨trivial, (fun h => by cases h), ?_⟩ | refine ⟨(fun h => by cases h), ?_⟩ | refine ⟨trivial, ?_⟩
            refine ((callsIn_wide (n := n9 - 1)).2 (withinF_0 (some ⟨b, off, none⟩) n5 c5 V)).mono ?_
            rintro e V1 ⟨rfl, rfl⟩
            gi_wp2_with fail
            first | refine ⟨trivial, (fun h => by cases h), ?_⟩ | refine ⟨(fun h => by cases h), ?_⟩ | refine ⟨trivial, ?_⟩
            refine HA.out.mono ?_
            rintro e V2 ⟨v2, rfl, hr2, ho2, hg2⟩
            obtain ⟨j4, s4, k4⟩ := LInv.behind HJ.out hKN.out hgN hgm HSV.out HKV.out HJ3.out ho2 hg2
            rw [← List.map_append] at hr2
            obtain ⟨n', hin2, hlt⟩ := HI.out.next hnb j4 hr2 s4 k4
            have HIN := hide hin2
            clear j4 s4 k4 hr2 ho2 hg2 hin2 HA
            gi_wp2
            go_roundw
            case rel => exact ⟨n', v2, _, _, _, rfl, HIN.out, by omega⟩
            case measure =>
              have h9 := (HMU.out (v2, V2) n' ⟨v2, _, _, _, rfl, HIN.out, by omega⟩).2
              rw [HMM.out]
              exact Nat.lt_of_le_of_lt h9 hlt
          · have HX := hide x3
            clear x3 y9 R9
            gi_wp2
            refine bodyPost_ret (results_none rfl _ _ _) rfl ?_
            exact ⟨⟨_, rfl⟩, .inr ⟨_, HX.out⟩⟩
        · have hks : pk (⟨0, some ⟨b, off, none⟩, n5, c5⟩ : Ls) ∈ ks := HQ.out.1 rfl
          have hs3 : SetAt w2 W.heap.size kvP ks := by
            have h9 := HS2.out
            unfold addK at h9
            rw [if_pos (show ((0, ⟨b, off, none⟩, n5) : Pk) ∈ ks from hks)] at h9
            exact h9
          obtain ⟨n', hin2, hlt⟩ := HI.out.again HJ2.out (ORow.keep HPOP.out fun g' hg' => by cases hg'; exact HG2.out) hs3 HK2.out hks
          have HIN := hide hin2
          clear hs3 hin2
          gi_wp2
          go_roundw
          case rel => exact ⟨n', _, _, _, _, rfl, HIN.out, by omega⟩
          case measure =>
            have h9 := (HMU.out (.slice (some ⟨g, 0, none⟩) left0.length cap, w2) n' ⟨_, _, _, _, rfl, HIN.out, by omega⟩).2
            rw [HMM.out]
            exact Nat.lt_of_le_of_lt h9 hlt
      · have q0 : wr.cell? ⟨g, left0.length, none⟩ = some (.iface 75 (.slice (some ⟨b, off, none⟩) n5 c5)) := hlast
        clear hlast
        have hmd : ∀ w : World, (method 212 75 (.slice (some ⟨b, off, none⟩) n5 c5) "loop.example/g00471/impl.place").run Try.prog w = .ok (58, (.slice (some ⟨b, off, none⟩) n5 c5)) w := fun _ => by kernel_rfl
        have hmd2 : ∀ w : World, (method 212 75 (.slice (some ⟨b, off, none⟩) n5 c5) "loop.example/g00471/impl.within").run Try.prog w = .ok (59, (.slice (some ⟨b, off, none⟩) n5 c5)) w := fun _ => by kernel_rfl
        gi_wp2_with fail
        first | refine ⟨trivial, (fun h => by cases h), ?_⟩ | refine ⟨(fun h => by cases h), ?_⟩ | refine ⟨trivial, ?_⟩
        refine ((callsIn_wide (n := n9 - 1)).2 (place_1 b off n5 c5 hn0 hnm hnc wr)).mono ?_
        rintro e w1 ⟨rfl, hb⟩
        have hblk : ∀ k, K k → w1.heap[k]? = w0.heap[k]? := fun k hk => (hb.block k (Nat.lt_of_lt_of_le (Nat.lt_of_lt_of_le (hKl.out k hk) hN0) HI.out.keep.1)).trans ((HI.out.keep.2 k (.inl hk) (Nat.lt_of_lt_of_le (hKl.out k hk) hN0)).trans (hKW.out k hk))
        have hpl : ∀ k p, K k → PlainAt w1 ⟨k, p, none⟩ := fun k p hk => by
          obtain ⟨c, e, h9⟩ := hKp.out k hk
          exact ⟨c, e, (hblk k hk).trans h9⟩
        have hps : ∀ q ∈ ks, q.1 < 3 ∧ PlainAt w1 q.2.1 := fun q hq => by
          obtain ⟨z, hz, rfl⟩ := HI.out.seen q hq
          obtain ⟨⟨hz', zz, hrz, -⟩, -⟩ := HI.out.done z hz
          obtain ⟨bz, oz, eoz, kz, -⟩ := hrz.at
          refine ⟨hrz.1, ?_⟩
          show PlainAt w1 (z.o.getD ⟨0, 0, none⟩)
          rw [eoz]
          exact hpl bz oz kz
        have HF := hide ((callsIn_wide (n := n9 - 1)).2 (isFirst_place W.heap.size (1, ⟨b, off, none⟩, n5) (by show (1 : Nat) < 3; omega) ks w1 (HI.out.set.keep (hb.block _ (SetAt.lt HI.out.set))) (hpl b off kb) hps))
        have HB := hide hb
        clear hblk hpl hps hb
        gi_wp2_with fail
        first | refine ⟨trivial, (fun h => by cases h), ?_⟩ | refine ⟨(fun h => by cases h), ?_⟩ | refine ⟨trivial, ?_⟩
        refine HF.out.mono ?_
        rintro e w2 ⟨⟨q, rfl, hq⟩, hs2, ho2⟩
        obtain ⟨j2, kp2, gk2, pl2⟩ := HI.out.upto HJ.out hKN.out HB.out ho2
        have HS2 := hide hs2
        have HJ2 := hide j2
        have HK2 := hide kp2
        have HP2 := hide pl2
        have HG2 := hide (gk2 g rfl)
        have HQ := hide hq
        clear hs2 ho2 j2 kp2 gk2 pl2 hq HB HF q0
        cases q
        · have HSUB : Hid (Sub K w0 root (⟨1, some ⟨b, off, none⟩, n5, c5⟩ : Ls)) := ⟨⟨hx, zs, HRX.out, by show lw (wtI hx 1) zs ≤ 10000000; have := HQX.out; omega⟩, HI.out.sub _ (by simp)⟩
          obtain ⟨f9, t9, a9, d9, y9, r9⟩ := HY.out (n9 - 1) ys (⟨1, some ⟨b, off, none⟩, n5, c5⟩ : Ls) _ w2 HJ2.out HSUB.out HK2.out.1 HP2.out
          change (Instr.yield l #[.iface 75 (.slice (some ⟨b, off, none⟩) n5 c5)]).run Try.prog _ = _ at y9
          have R9 := hide r9
          clear r9
          gi_wp2
          refine ⟨(fun h => by cases h), R9.out.mono ?_⟩
          rintro e V (⟨rfl, j3, k3⟩ | ⟨rfl, x3⟩)
          · have hml2 : W.heap.size < w2.heap.size := SetAt.lt HS2.out
            have hgl2 : g < w2.heap.size := HP2.out g (.inr (.inr rfl))
            have hsV := HS2.out.keep (k3.2 W.heap.size (.inr (.inl rfl)) hml2)
            have hkV : KeptP (fun k => K k ∨ k = Bs) W V := HK2.out.trans (k3.less fun k hk => .inl hk)
            have hrV : ListedRow W.heap.size V (.slice (some ⟨g, 0, none⟩) left0.length cap) (left0.map valL) := ORow.keep HPOP.out fun g' hg' => by
              cases hg'
              exact (k3.2 g (.inr (.inr rfl)) hgl2).trans HG2.out
            have hgV : g < V.heap.size := Nat.lt_of_lt_of_le hgl2 k3.1
            have hNV : W.heap.size ≤ V.heap.size := hkV.1
            have hKV : ∀ k, K k → (V.alloc (.cells #[(.slice (some ⟨b, off, none⟩) n5 c5)] 75)).heap[k]? = w0.heap[k]? := fun k hk => (Below.heap_alloc V _ k (Nat.lt_of_lt_of_le (Nat.lt_of_lt_of_le (hKl.out k hk) hN0) hNV)).trans ((hkV.2 k (.inl hk) (Nat.lt_of_lt_of_le (hKl.out k hk) hN0)).trans (hKW.out k hk))
            have HWI := hide (within_1 K w0 (V.alloc (.cells #[(.slice (some ⟨b, off, none⟩) n5 c5)] 75)) hx V.heap.size (some ⟨b, off, none⟩) n5 c5 zs (by simp; omega) hKV hKl.out HRX.out hnm (by simp; omega) (cell_of (heap_alloc_new V _) 0))
            have hkl : left0.length + (kids w0 (⟨1, some ⟨b, off, none⟩, n5, c5⟩ : Ls)).length ≤ 10000000 := by
              have h1 := (HRX.out.kids).1.len
              have h2 := (HRX.out.kids).2
              have h3 := HQX.out
              have h4 := HWL.out.len
              simp only at h1 h2
              omega
            have hk1 : ∀ k, (K k ∨ k = V.heap.size) → k < (V.alloc (.cells #[(.slice (some ⟨b, off, none⟩) n5 c5)] 75)).heap.size := fun k hk => by
              simp only [World.size_alloc]
              rcases hk with hk | hk
              · have := hKl.out k hk
                omega
              · omega
            have hk2 : ∀ q, (Value.slice (some ⟨g, 0, none⟩) left0.length cap).ownBlock = some q → ¬ (K q ∨ q = V.heap.size) := fun q hq hk => by
              have hqg : g = q := Option.some.inj hq
              subst hqg
              rcases hk with hk | hk
              · have := hKl.out g hk
                omega
              · omega
            have HA := hide ((callsIn_wide (n := n9 - 1)).2 (appendSeq_any (gf := 61) (lb := #[.pointer (some ⟨V.heap.size, 0, none⟩)]) (V.alloc (.cells #[(.slice (some ⟨b, off, none⟩) n5 c5)] 75)) (.slice (some ⟨g, 0, none⟩) left0.length cap) (left0.map valL) W.heap.size (ORow.keep hrV fun g' hg' => by cases hg'; exact Below.heap_alloc V _ g hgV) (by simp; omega) (fun k => K k ∨ k = V.heap.size) hk1 hk2 (kids w0 (⟨1, some ⟨b, off, none⟩, n5, c5⟩ : Ls)) HWI.out (enters_of Try.func61 (by kernel_rfl) rfl) (by rw [List.length_map]; exact hkl)))
            have HJ3 := hide j3
            have HSV := hide hsV
            have HKV := hide hkV
            clear j3 k3 hsV hkV hrV hKV hkl y9 R9 HWI hk1 hk2
            gi_wp2_with fail
            first | refine ⟨trivial, (fun h => by cases h), ?_⟩ | refine ⟨(fun h => by cases h), ?_⟩ | refine ⟨trivial, ?_⟩
            refine ((callsIn_wide (n := n9 - 1)).2 (withinF_1 (some ⟨b, off, none⟩) n5 c5 V)).mono ?_
            rintro e V1 ⟨rfl, rfl⟩
            gi_wp2_with fail
            first | refine ⟨trivial, (fun h => by cases h), ?_⟩ | refine ⟨(fun h => by cases h), ?_⟩ | refine ⟨trivial, ?_⟩
            refine HA.out.mono ?_
            rintro e V2 ⟨v2, rfl, hr2, ho2, hg2⟩
            obtain ⟨j4, s4, k4⟩ := LInv.behind HJ.out hKN.out hgN hgm HSV.out HKV.out HJ3.out ho2 hg2
            rw [← List.map_append] at hr2
            obtain ⟨n', hin2, hlt⟩ := HI.out.next hnb j4 hr2 s4 k4
            have HIN := hide hin2
            clear j4 s4 k4 hr2 ho2 hg2 hin2 HA
            gi_wp2
            go_roundw
            case rel => exact ⟨n', v2, _, _, _, rfl, HIN.out, by omega⟩
            case measure =>
              have h9 := (HMU.out (v2, V2) n' ⟨v2, _, _, _, rfl, HIN.out, by omega⟩).2
              rw [HMM.out]
              exact Nat.lt_of_le_of_lt h9 hlt
          · have HX := hide x3
            clear x3 y9 R9
            gi_wp2
            refine bodyPost_ret (results_none rfl _ _ _) rfl ?_
            exact ⟨⟨_, rfl⟩, .inr ⟨_, HX.out⟩⟩
        · have hks : pk (⟨1, some ⟨b, off, none⟩, n5, c5⟩ : Ls) ∈ ks := HQ.out.1 rfl
          have hs3 : SetAt w2 W.heap.size kvP ks := by
            have h9 := HS2.out
            unfold addK at h9
            rw [if_pos (show ((1, ⟨b, off, none⟩, n5) : Pk) ∈ ks from hks)] at h9
            exact h9
          obtain ⟨n', hin2, hlt⟩ := HI.out.again HJ2.out (ORow.keep HPOP.out fun g' hg' => by cases hg'; exact HG2.out) hs3 HK2.out hks
          have HIN := hide hin2
          clear hs3 hin2
          gi_wp2
          go_roundw
          case rel => exact ⟨n', _, _, _, _, rfl, HIN.out, by omega⟩
          case measure =>
            have h9 := (HMU.out (.slice (some ⟨g, 0, none⟩) left0.length cap, w2) n' ⟨_, _, _, _, rfl, HIN.out, by omega⟩).2
            rw [HMM.out]
            exact Nat.lt_of_le_of_lt h9 hlt
      · have q0 : wr.cell? ⟨g, left0.length, none⟩ = some (.iface 106 (.slice (some ⟨b, off, none⟩) n5 c5)) := hlast
        clear hlast
        have hmd : ∀ w : World, (method 212 106 (.slice (some ⟨b, off, none⟩) n5 c5) "loop.example/g00471/impl.place").run Try.prog w = .ok (64, (.slice (some ⟨b, off, none⟩) n5 c5)) w := fun _ => by kernel_rfl
        have hmd2 : ∀ w : World, (method 212 106 (.slice (some ⟨b, off, none⟩) n5 c5) "loop.example/g00471/impl.within").run Try.prog w = .ok (65, (.slice (some ⟨b, off, none⟩) n5 c5)) w := fun _ => by kernel_rfl
        gi_wp2_with fail
        first | refine ⟨trivial, (fun h => by cases h), ?_⟩ | refine ⟨(fun h => by cases h), ?_⟩ | refine ⟨trivial, ?_⟩
        refine ((callsIn_wide (n := n9 - 1)).2 (place_2 b off n5 c5 hn0 hnm hnc wr)).mono ?_
        rintro e w1 ⟨rfl, hb⟩
        have hblk : ∀ k, K k → w1.heap[k]? = w0.heap[k]? := fun k hk => (hb.block k (Nat.lt_of_lt_of_le (Nat.lt_of_lt_of_le (hKl.out k hk) hN0) HI.out.keep.1)).trans ((HI.out.keep.2 k (.inl hk) (Nat.lt_of_lt_of_le (hKl.out k hk) hN0)).trans (hKW.out k hk))
        have hpl : ∀ k p, K k → PlainAt w1 ⟨k, p, none⟩ := fun k p hk => by
          obtain ⟨c, e, h9⟩ := hKp.out k hk
          exact ⟨c, e, (hblk k hk).trans h9⟩
        have hps : ∀ q ∈ ks, q.1 < 3 ∧ PlainAt w1 q.2.1 := fun q hq => by
          obtain ⟨z, hz, rfl⟩ := HI.out.seen q hq
          obtain ⟨⟨hz', zz, hrz, -⟩, -⟩ := HI.out.done z hz
          obtain ⟨bz, oz, eoz, kz, -⟩ := hrz.at
          refine ⟨hrz.1, ?_⟩
          show PlainAt w1 (z.o.getD ⟨0, 0, none⟩)
          rw [eoz]
          exact hpl bz oz kz
        have HF := hide ((callsIn_wide (n := n9 - 1)).2 (isFirst_place W.heap.size (2, ⟨b, off, none⟩, n5) (by show (2 : Nat) < 3; omega) ks w1 (HI.out.set.keep (hb.block _ (SetAt.lt HI.out.set))) (hpl b off kb) hps))
        have HB := hide hb
        clear hblk hpl hps hb
        gi_wp2_with fail
        first | refine ⟨trivial, (fun h => by cases h), ?_⟩ | refine ⟨(fun h => by cases h), ?_⟩ | refine ⟨trivial, ?_⟩
        refine HF.out.mono ?_
        rintro e w2 ⟨⟨q, rfl, hq⟩, hs2, ho2⟩
        obtain ⟨j2, kp2, gk2, pl2⟩ := HI.out.upto HJ.out hKN.out HB.out ho2
        have HS2 := hide hs2
        have HJ2 := hide j2
        have HK2 := hide kp2
        have HP2 := hide pl2
        have HG2 := hide (gk2 g rfl)
        have HQ := hide hq
        clear hs2 ho2 j2 kp2 gk2 pl2 hq HB HF q0
        cases q
        · have HSUB : Hid (Sub K w0 root (⟨2, some ⟨b, off, none⟩, n5, c5⟩ : Ls)) := ⟨⟨hx, zs, HRX.out, by show lw (wtI hx 2) zs ≤ 10000000; have := HQX.out; omega⟩, HI.out.sub _ (by simp)⟩
          obtain ⟨f9, t9, a9, d9, y9, r9⟩ := HY.out (n9 - 1) ys (⟨2, some ⟨b, off, none⟩, n5, c5⟩ : Ls) _ w2 HJ2.out HSUB.out HK2.out.1 HP2.out
          change (Instr.yield l #[.iface 106 (.slice (some ⟨b, off, none⟩) n5 c5)]).run Try.prog _ = _ at y9
          have R9 := hide r9
          clear r9
          gi_wp2
          refine ⟨(fun h => by cases h), R9.out.mono ?_⟩
          rintro e V (⟨rfl, j3, k3⟩ | ⟨rfl, x3⟩)
          · have hml2 : W.heap.size < w2.heap.size := SetAt.lt HS2.out
            have hgl2 : g < w2.heap.size := HP2.out g (.inr (.inr rfl))
            have hsV := HS2.out.keep (k3.2 W.heap.size (.inr (.inl rfl)) hml2)
            have hkV : KeptP (fun k => K k ∨ k = Bs) W V := HK2.out.trans (k3.less fun k hk => .inl hk)
            have hrV : ListedRow W.heap.size V (.slice (some ⟨g, 0, none⟩) left0.length cap) (left0.map valL) := ORow.keep HPOP.out fun g' hg' => by
              cases hg'
              exact (k3.2 g (.inr (.inr rfl)) hgl2).trans HG2.out
            have hgV : g < V.heap.size := Nat.lt_of_lt_of_le hgl2 k3.1
            have hNV : W.heap.size ≤ V.heap.size := hkV.1
            have hKV : ∀ k, K k → (V.alloc (.cells #[(.slice (some ⟨b, off, none⟩) n5 c5)] 106)).heap[k]? = w0.heap[k]? := fun k hk => (Below.heap_alloc V _ k (Nat.lt_of_lt_of_le (Nat.lt_of_lt_of_le (hKl.out k hk) hN0) hNV)).trans ((hkV.2 k (.inl hk) (Nat.lt_of_lt_of_le (hKl.out k hk) hN0)).trans (hKW.out k hk))
            have HWI := hide (within_2 K w0 (V.alloc (.cells #[(.slice (some ⟨b, off, none⟩) n5 c5)] 106)) hx V.heap.size (some ⟨b, off, none⟩) n5 c5 zs (by simp; omega) hKV hKl.out HRX.out hnm (by simp; omega) (cell_of (heap_alloc_new V _) 0))
            have hkl : left0.length + (kids w0 (⟨2, some ⟨b, off, none⟩, n5, c5⟩ : Ls)).length ≤ 10000000 := by
              have h1 := (HRX.out.kids).1.len
              have h2 := (HRX.out.kids).2
              have h3 := HQX.out
              have h4 := HWL.out.len
              simp only at h1 h2
              omega
            have hk1 : ∀ k, (K k ∨ k = V.heap.size) → k < (V.alloc (.cells #[(.slice (some ⟨b, off, none⟩) n5 c5)] 106)).heap.size := fun k hk => by
              simp only [World.size_alloc]
              rcases hk with hk | hk
              · have := hKl.out k hk
                omega
              · omega
            have hk2 : ∀ q, (Value.slice (some ⟨g, 0, none⟩) left0.length cap).ownBlock = some q → ¬ (K q ∨ q = V.heap.size) := fun q hq hk => by
              have hqg : g = q := Option.some.inj hq
              subst hqg
              rcases hk with hk | hk
              · have := hKl.out g hk
                omega
              · omega
            have HA := hide ((callsIn_wide (n := n9 - 1)).2 (appendSeq_any (gf := 67) (lb := #[.pointer (some ⟨V.heap.size, 0, none⟩)]) (V.alloc (.cells #[(.slice (some ⟨b, off, none⟩) n5 c5)] 106)) (.slice (some ⟨g, 0, none⟩) left0.length cap) (left0.map valL) W.heap.size (ORow.keep hrV fun g' hg' => by cases hg'; exact Below.heap_alloc V _ g hgV) (by simp; omega) (fun k => K k ∨ k = V.heap.size) hk1 hk2 (kids w0 (⟨2, some ⟨b, off, none⟩, n5, c5⟩ : Ls)) HWI.out (enters_of Try.func67 (by kernel_rfl) rfl) (by rw [List.length_map]; exact hkl)))
            have HJ3 := hide j3
            have HSV := hide hsV
            have HKV := hide hkV
            clear j3 k3 hsV hkV hrV hKV hkl y9 R9 HWI hk1 hk2
            gi_wp2_with fail
            first | refine ⟨trivial, (fun h => by cases h), ?_⟩ | refine ⟨(fun h => by cases h), ?_⟩ | refine ⟨trivial, ?_⟩
            refine ((callsIn_wide (n := n9 - 1)).2 (withinF_2 (some ⟨b, off, none⟩) n5 c5 V)).mono ?_
            rintro e V1 ⟨rfl, rfl⟩
            gi_wp2_with fail
            first | refine ⟨trivial, (fun h => by cases h), ?_⟩ | refine ⟨(fun h => by cases h), ?_⟩ | refine ⟨trivial, ?_⟩
            refine HA.out.mono ?_
            rintro e V2 ⟨v2, rfl, hr2, ho2, hg2⟩
            obtain ⟨j4, s4, k4⟩ := LInv.behind HJ.out hKN.out hgN hgm HSV.out HKV.out HJ3.out ho2 hg2
            rw [← List.map_append] at hr2
            obtain ⟨n', hin2, hlt⟩ := HI.out.next hnb j4 hr2 s4 k4
            have HIN := hide hin2
            clear j4 s4 k4 hr2 ho2 hg2 hin2 HA
            gi_wp2
            go_roundw
            case rel => exact ⟨n', v2, _, _, _, rfl, HIN.out, by omega⟩
            case measure =>
              have h9 := (HMU.out (v2, V2) n' ⟨v2, _, _, _, rfl, HIN.out, by omega⟩).2
              rw [HMM.out]
              exact Nat.lt_of_le_of_lt h9 hlt
          · have HX := hide x3
            clear x3 y9 R9
            gi_wp2
            refine bodyPost_ret (results_none rfl _ _ _) rfl ?_
            exact ⟨⟨_, rfl⟩, .inr ⟨_, HX.out⟩⟩
        · have hks : pk (⟨2, some ⟨b, off, none⟩, n5, c5⟩ : Ls) ∈ ks := HQ.out.1 rfl
          have hs3 : SetAt w2 W.heap.size kvP ks := by
            have h9 := HS2.out
            unfold addK at h9
            rw [if_pos (show ((2, ⟨b, off, none⟩, n5) : Pk) ∈ ks from hks)] at h9
            exact h9
          obtain ⟨n', hin2, hlt⟩ := HI.out.again HJ2.out (ORow.keep HPOP.out fun g' hg' => by cases hg'; exact HG2.out) hs3 HK2.out hks
          have HIN := hide hin2
          clear hs3 hin2
          gi_wp2
          go_roundw
          case rel => exact ⟨n', _, _, _, _, rfl, HIN.out, by omega⟩
          case measure =>
            have h9 := (HMU.out (.slice (some ⟨g, 0, none⟩) left0.length cap, w2) n' ⟨_, _, _, _, rfl, HIN.out, by omega⟩).2
            rw [HMM.out]
            exact Nat.lt_of_le_of_lt h9 hlt
end Go.Proofs.Ytnmofagmjcengaa.Br
