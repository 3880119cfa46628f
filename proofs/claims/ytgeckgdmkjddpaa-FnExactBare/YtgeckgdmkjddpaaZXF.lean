/- Copies: a list is copied, and left to be turned (made by genZXF.py). -/
import Derived.Test.YtgeckgdmkjddpaaZXE
import Derived.Laws.CopyOwn
namespace Go.Proofs.Ytgeckgdmkjddpaa.Cp
open Go.ChangeShapes Go.WideShapes Go.ChangeAt Go.RowKit Go.Proofs.Ytgeckgdmkjddpaa.Vo Go.Proofs.Ytgeckgdmkjddpaa.Rd Go.Proofs.Ytgeckgdmkjddpaa.Br
set_option linter.unusedVariables false

/-- A list that is copied: nothing, if it is empty; else one row more that is left. -/
def NewP (i h : Nat) (xs : List Tr) (v : Value) (F : List Pe) : Prop := (xs = [] ∧ v = .slice none 0 0 ∧ F = []) ∨ (xs ≠ [] ∧ ∃ g, v = .slice (some ⟨g, 0, none⟩) xs.length xs.length ∧ F = [⟨i, g, h, xs⟩])
def NewN (ss : List ByteArray) (v : Value) (F : List Ne) : Prop := (ss = [] ∧ v = .slice none 0 0 ∧ F = []) ∨ (ss ≠ [] ∧ ∃ g, v = .slice (some ⟨g, 0, none⟩) ss.length ss.length ∧ F = [⟨g, ss⟩])
theorem NewP.form {i h : Nat} {xs : List Tr} {v : Value} {F : List Pe} (h : NewP i h xs v F) : ∃ o c, v = .slice o xs.length c := by
  rcases h with ⟨rfl, rfl, -⟩ | ⟨-, g, rfl, -⟩
  · exact ⟨_, _, rfl⟩
  · exact ⟨_, _, rfl⟩
theorem NewN.form {ss : List ByteArray} {v : Value} {F : List Ne} (h : NewN ss v F) : ∃ o c, v = .slice o ss.length c := by
  rcases h with ⟨rfl, rfl, -⟩ | ⟨-, g, rfl, -⟩
  · exact ⟨_, _, rfl⟩
  · exact ⟨_, _, rfl⟩

/-- One row more is left. -/
theorem push_0 {K : Nat → Prop} {w0 w w6 : World} {C M : Nat} {E D A : List Pe} {N : List Ne} {X : List Nat} {vE vD vA vN v' : Value} {p : Pe} (h : MemV K w0 C M E D A N X w vE vD vA vN) (hrow : Row w6 126 2 v' (E.map Pe.cells ++ [p.cells])) (hgr : w.grownBy w6 vE.ownBlock) (hbk : v'.ownBlock = vE.ownBlock ∨ v'.ownBlock = some w.heap.size) (hg : p.g ∉ blks C M vE vD vA vN E D A N X) (hg1 : w0.heap.size ≤ p.g) (hg2 : p.g < w.heap.size) (hpok : p.i = 0 ∧ PeOk K w0 w6 p) :
    MemV K w0 C M (E ++ [p]) D A N X (w6.setCell ⟨C, 0, none⟩ v') v' vD vA vN ∧ Keeps (KX w0 X) w (w6.setCell ⟨C, 0, none⟩ v') := by
  have e1 : (blks C M vE vD vA vN E D A N X).Perm (ownL vE ++ blks C M (.map none) vD vA vN E D A N X) := List.perm_iff_count.2 fun b => by
    simp [blks, List.count_append, List.count_cons, ownL, Value.ownBlock]
    try omega
  have e2 : (blks C M v' vD vA vN (E ++ [p]) D A N X).Perm (p.g :: (ownL v' ++ blks C M (.map none) vD vA vN E D A N X)) := List.perm_iff_count.2 fun b => by
    simp [blks, List.count_append, List.count_cons, ownL, Value.ownBlock]
    try omega
  have hws := h.old.size
  have hwz := hgr.size
  have hn := e1.nodup_iff.1 h.apart.1
  obtain ⟨n1, n2, n3⟩ := List.nodup_append.1 hn
  have hin : ∀ b ∈ blks C M (.map none) vD vA vN E D A N X, w0.heap.size ≤ b ∧ b < w.heap.size := fun b hb => h.apart.2 b (e1.mem_iff.2 (List.mem_append_right _ hb))
  have hin2 : ∀ b ∈ ownL vE, w0.heap.size ≤ b ∧ b < w.heap.size := fun b hb => h.apart.2 b (e1.mem_iff.2 (List.mem_append_left _ hb))
  have hown : ∀ b, some b = vE.ownBlock → b ∈ ownL vE := fun b e => by unfold ownL; rw [← e]; simp
  have hvb : ∀ b ∈ ownL v', (b ∈ ownL vE ∨ b = w.heap.size) := fun b hb => by
    unfold ownL at hb ⊢
    rcases hbk with e | e
    · rw [e] at hb
      exact .inl hb
    · rw [e] at hb
      exact .inr (by simpa using hb)
  have hv1 : (ownL v').Nodup := by
    unfold ownL
    cases v'.ownBlock <;> simp
  have hCm : C ∈ blks C M (.map none) vD vA vN E D A N X := by simp [blks]
  have hvn : ∀ b ∈ ownL v', ∀ c ∈ blks C M (.map none) vD vA vN E D A N X, b ≠ c := fun b hb c hc e => by
    subst e
    rcases hvb b hb with h1 | h1
    · exact n3 b h1 b hc rfl
    · have := (hin b hc).2
      omega
  have hgC : p.g ≠ C := fun e => hg (by rw [e]; simp [blks])
  have hpok2 : p.i = 0 ∧ PeOk K w0 (w6.setCell ⟨C, 0, none⟩ v') p := ⟨hpok.1, hpok.2.keep (heap_set_other (g := C) (j := 0) (w := w6) v' hgC)⟩
  have kk : ∀ b ∈ M :: (blks C M (.map none) vD vA vN E D A N X).tail, (w6.setCell ⟨C, 0, none⟩ v').heap[b]? = w.heap[b]? := fun b hb => by
    have hb2 : b ∈ blks C M (.map none) vD vA vN E D A N X := by
      rcases List.mem_cons.1 hb with rfl | hb
      · simp [blks]
      · exact List.mem_of_mem_tail hb
    have hbC : b ≠ C := fun e => by
      subst e
      have h8 := n2
      unfold blks at h8 hb
      have h7 := (List.nodup_cons.1 h8).1
      rw [List.tail_cons] at hb
      rcases List.mem_cons.1 hb with rfl | hb
      · exact h7 (by simp)
      · exact h7 hb
    exact (heap_set_other _ hbC).trans (hgr.block b (hin b hb2).2 fun e => n3 b (hown b e) b hb2 rfl)
  have hbox6 : w6.heap[C]? = some (.cells (ecv vE vD vA vN M) 85 (0, 0)) := (hgr.block C (hin C hCm).2 fun e => n3 C (hown C e) C hCm rfl).trans h.box
  have hrow2 : Row (w6.setCell ⟨C, 0, none⟩ v') 126 2 v' ((E ++ [p]).map Pe.cells) := by
    rw [List.map_append]
    exact hrow.frame fun b hb => heap_set_other _ (hvn b hb C hCm)
  have hlt : ∀ b ∈ ownL v', b < w6.heap.size := fun b hb => (hrow.lt b hb).1
  have hkeep : Keeps (KX w0 X) w (w6.setCell ⟨C, 0, none⟩ v') := ⟨hgr.os, hgr.tape, hgr.output, by simpa using hgr.size, fun b hb => by
    rcases hb with hb | hb
    · have h1 : b ≠ C := fun e => by have := (hin C hCm).1; omega
      exact (heap_set_other _ h1).trans (hgr.block b (by omega) fun e => by have := (hin2 b (hown b e)).1; omega)
    · exact kk b (by simp [blks, hb])⟩
  refine ⟨⟨?_, hrow2, h.rD.frame (fun b hb => kk b (by simp [blks, hb])), h.rA.frame (fun b hb => kk b (by simp [blks, hb])), h.rN.frame (fun b hb => kk b (by simp [blks, hb])), h.txs.keep (kk M (by simp)), fun q hq => by
    rcases List.mem_append.1 hq with hq | hq
    · exact ⟨(h.pE q hq).1, (h.pE q hq).2.keep (kk _ (by have h9 : q.g ∈ E.map Pe.g := List.mem_map_of_mem hq; simp only [blks, List.tail_cons, List.mem_cons, List.mem_append]; simp [h9]))⟩
    · rw [List.mem_singleton] at hq
      rw [hq]
      exact hpok2, fun q hq => ⟨(h.pD q hq).1, (h.pD q hq).2.keep (kk _ (by have h9 : q.g ∈ D.map Pe.g := List.mem_map_of_mem hq; simp only [blks, List.tail_cons, List.mem_cons, List.mem_append]; simp [h9]))⟩, fun q hq => ⟨(h.pA q hq).1, (h.pA q hq).2.keep (kk _ (by have h9 : q.g ∈ A.map Pe.g := List.mem_map_of_mem hq; simp only [blks, List.tail_cons, List.mem_cons, List.mem_append]; simp [h9]))⟩, fun q hq => (h.pN q hq).keep (kk _ (by have h9 : q.g ∈ N.map Ne.g := List.mem_map_of_mem hq; simp only [blks, List.tail_cons, List.mem_cons, List.mem_append]; simp [h9])), ⟨e2.nodup_iff.2 (List.nodup_cons.2 ⟨fun hm => ?_, List.nodup_append.2 ⟨hv1, n2, hvn⟩⟩), fun b hb => ?_⟩, h.old.trans ⟨hkeep.os, hkeep.tape, hkeep.output, hkeep.size, fun b hb => hkeep.block b (.inl hb)⟩⟩, hkeep⟩
  · have h9 := heap_set_same (j := 0) v' hbox6
    simpa [ecv] using h9
  · rcases List.mem_append.1 hm with hm | hm
    · rcases hvb _ hm with h1 | h1
      · exact hg (e1.mem_iff.2 (List.mem_append_left _ h1))
      · omega
    · exact hg (e1.mem_iff.2 (List.mem_append_right _ hm))
  · have hs : (w6.setCell ⟨C, 0, none⟩ v').heap.size = w6.heap.size := by simp
    rw [hs]
    rcases List.mem_cons.1 (e2.mem_iff.1 hb) with rfl | hb
    · exact ⟨hg1, by omega⟩
    · rcases List.mem_append.1 hb with hb | hb
      · refine ⟨?_, hlt b hb⟩
        rcases hvb b hb with h1 | h1
        · exact (hin2 b h1).1
        · omega
      · have := hin b hb
        omega

set_option maxHeartbeats 4000000 in
set_option maxRecDepth 100000 in
theorem copy_0 {K : Nat → Prop} {w0 w : World} {C M : Nat} {E D A : List Pe} {N : List Ne} {X : List Nat} (hm : Mem K w0 C M E D A N X w) (h : Nat) (xs : List Tr) (o : Option Addr) (c : Nat) (hr : RowOf K w0 (rdI K w0 h 0) 6 o xs) (hf : xs.length ≤ c) (hln : xs.length ≤ 1048576) (hlen : E.length ≤ 3000000) :
    Calls Try.prog 28 #[.pointer (some ⟨C, 0, none⟩), .slice o xs.length c, .bool false] w fun e w' => ∃ v F, e = .returned v ∧ NewP 0 h xs v F ∧ Mem K w0 C M (E ++ F) D A N X w' ∧ Keeps (KX w0 X) w w' := by
  by_cases hne : xs = []
  · subst hne
    have HM := hide hm
    have HK : Hid (Keeps (KX w0 X) w w) := Keeps.refl _ _
    clear hm hr
    simp only [List.length_nil] at hf ⊢
    go_enter Try.func28, Try.ntmps28
    go_wp2
    go_ret
    exact ⟨_, [], rfl, .inl ⟨rfl, rfl, rfl⟩, by rw [List.append_nil]; exact HM.out, HK.out⟩
  obtain ⟨b, off, css, rfl, kb, hbl, hcl, hcz, hcc, hcr⟩ := row_css hr hne (by decide)
  have hne1 : xs.length ≠ 0 := fun e => hne (List.length_eq_zero_iff.1 e)
  obtain ⟨vE, vD, vA, vN, hm⟩ := hm
  have hfl := flat_len css hcz
  have hws := hm.old.size
  have h1c : ∀ u ∈ css.flatten, u.oneCell' = true := fun u hu => by
    obtain ⟨cs, hcs, hu⟩ := List.mem_flatten.1 hu
    obtain ⟨j, hj⟩ := List.mem_iff_getElem?.1 hcs
    have hjl : j < xs.length := by rw [← hcl]; exact (List.getElem?_eq_some_iff.1 hj).1
    obtain ⟨cs2, e1, e2⟩ := hcr j _ (List.getElem?_eq_getElem hjl)
    rw [hj] at e1
    cases e1
    exact rdI_one e2 u hu
  have HLK := hide (look_nil (ptrT_c (by decide : 0 < 3)) Try.underlying64 (z := .slice none 0 0) (fun w => by kernel_rfl) ⟨b, off, none⟩ xs.length)
  have hmk := make_Exp xs.length hln
  have HP := hide (placeOf_0 b off xs.length c hne1 (Nat.le_trans hln (by unfold maxLen; omega)) hf w)
  have hm1 : xs.length ≤ 9223372036854775807 := by omega
  have h2 : (0 : Int) < xs.length := by omega
  have h3 : ((xs.length : Int) == 0) = false := by simpa using hne1
  have HHM := hide hm
  have HCC := hide hcc
  have HCR := hide hcr
  have HCZ := hide hcz
  have H1C := hide h1c
  clear hm hr hcc hcr hcz h1c
  go_enter Try.func28, Try.ntmps28
  go_wp2_with fail
  refine HP.out.mono ?_
  rintro e w1 ⟨rfl, hb1⟩
  have hm1v := HHM.out.below hb1
  obtain ⟨W2, hW2⟩ : ∃ W, w1.alloc (.cells #[.iface (ptrT 0) (.pointer (some ⟨b, off, none⟩)), .int .i64 (xs.length : Int), .bool false] 123) = W := ⟨_, rfl⟩
  have hb2 : Below w1.heap.size w1 W2 := by rw [← hW2]; exact (Below.refl _ w1).alloc (Nat.le_refl _) _
  have hx2 : W2.heap[w1.heap.size]? = some (.cells #[.iface (ptrT 0) (.pointer (some ⟨b, off, none⟩)), .int .i64 (xs.length : Int), .bool false] 123 (0, 0)) := by rw [← hW2]; exact heap_alloc_new w1 _
  have hst2 : W2.setCell ⟨w1.heap.size, 2, none⟩ (.bool false) = W2 := set_self hx2 rfl
  have p1 := cell_of (hm1v.below hb2).box 1
  have y0 := cell_of hx2 0
  have y1 := cell_of hx2 1
  have y2 := cell_of hx2 2
  have g0 := frozen_of hx2 0
  have g1 := frozen_of hx2 1
  have g2 := frozen_of hx2 2
  simp only [ecv, List.getElem?_toArray, List.getElem?_cons_succ, List.getElem?_cons_zero] at p1 y0 y1 y2
  have hlk := HLK.out
  have HMV := hide ((hm1v.below hb2))
  have HB12 := hide (hb1.trans (hb2.mono hb1.size))
  have hz1 := HB12.out.size
  clear hb1 hm1v hb2 hx2 HP
  try unfold kvP
  go_upto_region 4 with fail
  go_quiet (fail)
  generalize hWd : W2.drewN _ = Wd
  have hbd : Below W2.heap.size W2 Wd := by rw [← hWd]; exact below_drewN (Below.refl _ W2) _
  have hmd := HMV.out.below hbd
  have hzd := hbd.size
  have HBD := hide (HB12.out.trans (hbd.mono hz1))
  clear hbd hW2 hst2 p1 y0 y1 y2 g0 g1 g2 hlk hWd
  obtain ⟨W3, hW3⟩ : ∃ W, Wd.alloc (.cells (madeCells #[.int .i64 0, .string ⟨#[]⟩, .int .i64 0, .slice none 0 0, .slice none 0 0, .slice none 0 0] (xs.length * 6)) 32) = W := ⟨_, rfl⟩
  have hb3 : Below Wd.heap.size Wd W3 := by rw [← hW3]; exact (Below.refl _ Wd).alloc (Nat.le_refl _) _
  have hx3 : W3.heap[Wd.heap.size]? = some (.cells (madeCells #[.int .i64 0, .string ⟨#[]⟩, .int .i64 0, .slice none 0 0, .slice none 0 0, .slice none 0 0] (xs.length * 6)) 32 (0, 0)) := by rw [← hW3]; exact heap_alloc_new Wd _
  have hmk2 := hmk Wd
  rw [hW3] at hmk2
  have hz3 := hb3.size
  have hsrc : ∀ (j : Nat) u, css.flatten[j]? = some u → W3.cell? ((⟨b, off, none⟩ : Addr).add j) = some u := fun j u hu => by
    have h9 := HCC.out j u hu
    have h8 : W3.heap[b]? = w0.heap[b]? := (hb3.block b (by omega)).trans (hmd.old.block b hbl)
    have h7 : (⟨b, off, none⟩ : Addr).add j = ⟨b, off + j, none⟩ := by unfold Addr.add; split <;> simp_all
    rw [h7]
    exact (World.cell?_of_block (a := ⟨b, off + j, none⟩) h8).trans h9
  have hcopy := fun ty => run_copy_big W3 28 28 ty 32 Wd.heap.size xs.length xs.length 6 ⟨b, off, none⟩ c _ _ css.flatten Try.underlying28 (by kernel_rfl) hx3 (by rw [hfl, hcl]) (by rw [size_madeCells]) hsrc H1C.out
  obtain ⟨W4, hW4⟩ : ∃ W, W3.setRow Wd.heap.size css.flatten.toArray = W := ⟨_, rfl⟩
  simp only [hW4] at hcopy
  have hb4 : Below Wd.heap.size Wd W4 := by rw [← hW4]; exact below_setRow hb3 (Nat.le_refl _) _
  have hx4 : W4.heap[Wd.heap.size]? = some (.cells css.flatten.toArray 32 (0, 0)) := by rw [← hW4]; exact setRow_heap W3 _ _ _ _ _ hx3
  have hm4 := hmd.below hb4
  have hz4 : Wd.heap.size < W4.heap.size := heap_lt hx4
  obtain ⟨i0, hi0, he0⟩ := Option.map_eq_some_iff.1 (show (Try.prog.info? 126).map (fun i => (i.zero.map (·.cells.size), i.size, i.bytes)) = some (some 2, 2, 32) by kernel_rfl)
  simp only [Prod.mk.injEq] at he0
  obtain ⟨z0, hzz, hzs⟩ := Option.map_eq_some_iff.1 he0.1
  have hr4 : Row W4 126 2 vE (E.map Pe.cells) := hm4.rE
  obtain ⟨ov, cv, ev, -⟩ := hr4.form
  rw [List.length_map] at ev
  obtain ⟨W5, hW5⟩ : ∃ W, W4.alloc (.cells #[.slice (some ⟨Wd.heap.size, 0, none⟩) xs.length xs.length, .bool false] 126) = W := ⟨_, rfl⟩
  have hb5 : Below W4.heap.size W4 W5 := by rw [← hW5]; exact (Below.refl _ W4).alloc (Nat.le_refl _) _
  have hx5 : W5.heap[W4.heap.size]? = some (.cells #[.slice (some ⟨Wd.heap.size, 0, none⟩) xs.length xs.length, .bool false] 126 (0, 0)) := by rw [← hW5]; exact heap_alloc_new W4 _
  have hm5 := hm4.below hb5
  obtain ⟨o', n', c', W6, happ, hrow6, hgr6, hbk6⟩ := Row.append Try.underlying63 hi0 hzz he0.2.1 he0.2.2 hzs (by decide) (by decide) (h := hm5.rE) (by rw [List.length_map]; omega) (a := W4.heap.size) (c := [.slice (some ⟨Wd.heap.size, 0, none⟩) xs.length xs.length, .bool false]) rfl (fun j u hu => by
    have h9 := cell_of hx5 j
    rw [List.getElem?_toArray, hu] at h9
    exact h9) (fun u hu => by
    simp only [List.mem_cons, List.not_mem_nil, or_false] at hu
    rcases hu with rfl | rfl <;> rfl) 63
  rw [ev] at happ
  have HAPP := hide happ
  have HM5 := hide hm5
  have HROW6 := hide hrow6
  have HGR6 := hide hgr6
  have HBK6 := hide hbk6
  have HEV := hide ev
  have hz5 := hb5.size
  have hCin : C ∈ blks C M vE vD vA vN E D A N X := by simp [blks]
  have hnd := hm5.apart.1
  have hCv : ∀ g, vE.ownBlock = some g → g ≠ C := fun g hg e => by
    have h9 : C ∈ ownL vE := by unfold ownL; rw [hg, e]; simp
    unfold blks at hnd
    exact (List.nodup_cons.1 hnd).1 (by simp [h9])
  have hC5 : W5.heap[C]? = some (.cells (ecv vE vD vA vN M) 85 (0, 0)) := hm5.box
  have hCl : C < W5.heap.size := heap_lt hC5
  have hC6 : W6.heap[C]? = some (.cells (ecv vE vD vA vN M) 85 (0, 0)) := (hgr6.block C hCl fun e => hCv C e.symm rfl).trans hC5
  have HC6 := hide hC6
  have HC4 := hide hm4.box
  have HB : Hid (Below w.heap.size w W5) := (HBD.out.trans (hb4.mono (by omega))).trans (hb5.mono (by omega))
  have HX4 := hide ((hb5.block _ hz4).trans hx4)
  have q0 := cell_of hm4.box 0
  have f6 := frozen_of hC6 0
  have r0 := cell_of hC6 0
  have r1 := cell_of hC6 1
  simp only [ecv, List.getElem?_toArray, List.getElem?_cons_succ, List.getElem?_cons_zero] at q0 r0 r1
  rw [ev] at q0 r0
  have hneq : ∀ w, (binOp BinOp.neq 64 (.map none) (.map none)).run Try.prog w = .ok (.bool false) w := fun w => by kernel_rfl
  have HNB : Hid (Wd.heap.size ∉ blks C M vE vD vA vN E D A N X) := hide fun hm => by
    have := (HHM.out.apart.2 _ hm).2
    have := HBD.out.size
    omega
  have HKB : Hid (Keeps (KX w0 X) w W5) := ⟨HB.out.os, HB.out.tape, HB.out.output, HB.out.size, fun b hb => HB.out.block b (by
    rcases hb with hb | hb
    · omega
    · exact (HHM.out.apart.2 b (by rw [blks_split]; exact List.mem_append_right _ hb)).2)⟩
  have HX6 : Hid (W6.heap[Wd.heap.size]? = some (.cells css.flatten.toArray 32 (0, 0))) := hide ((hgr6.block _ (by omega) fun e => by
    have h9 : Wd.heap.size ∈ ownL vE := by unfold ownL; rw [← e]; simp
    exact HNB.out (by simp [blks, h9])).trans HX4.out)
  have hgz : (0 : Int) ≤ (xs.length : Int) := by omega
  clear happ hmd hb3 hx3 hb4 hx4 hm4 hr4 hb5 hx5 hm5 hrow6 hgr6 hbk6 hnd hCv hC5 hC6 hsrc hmk hCin
  go_wp2_with (at_builtin; refine Lib.wpList_append_run _ rfl _ _ _ _ rfl _ _ rfl rfl _ _ HAPP.out ?_)
  go_ret
  have hpush := push_0 (p := (⟨0, Wd.heap.size, h, xs⟩ : Pe)) HM5.out HROW6.out HGR6.out HBK6.out (fun hm => HNB.out hm) (by show w0.heap.size ≤ Wd.heap.size; omega) (by show Wd.heap.size < _; omega) ⟨rfl, hne, hln, css, HX6.out, hcl, HCZ.out, HCR.out⟩
  refine ⟨_, [(⟨0, Wd.heap.size, h, xs⟩ : Pe)], rfl, .inr ⟨hne, _, rfl, rfl⟩, ⟨_, _, _, _, hpush.1⟩, (HKB.out).trans hpush.2⟩

/-- One row more is left. -/
theorem push_1 {K : Nat → Prop} {w0 w w6 : World} {C M : Nat} {E D A : List Pe} {N : List Ne} {X : List Nat} {vE vD vA vN v' : Value} {p : Pe} (h : MemV K w0 C M E D A N X w vE vD vA vN) (hrow : Row w6 147 2 v' (D.map Pe.cells ++ [p.cells])) (hgr : w.grownBy w6 vD.ownBlock) (hbk : v'.ownBlock = vD.ownBlock ∨ v'.ownBlock = some w.heap.size) (hg : p.g ∉ blks C M vE vD vA vN E D A N X) (hg1 : w0.heap.size ≤ p.g) (hg2 : p.g < w.heap.size) (hpok : p.i = 1 ∧ PeOk K w0 w6 p) :
    MemV K w0 C M E (D ++ [p]) A N X (w6.setCell ⟨C, 2, none⟩ v') vE v' vA vN ∧ Keeps (KX w0 X) w (w6.setCell ⟨C, 2, none⟩ v') := by
  have e1 : (blks C M vE vD vA vN E D A N X).Perm (ownL vD ++ blks C M vE (.map none) vA vN E D A N X) := List.perm_iff_count.2 fun b => by
    simp [blks, List.count_append, List.count_cons, ownL, Value.ownBlock]
    try omega
  have e2 : (blks C M vE v' vA vN E (D ++ [p]) A N X).Perm (p.g :: (ownL v' ++ blks C M vE (.map none) vA vN E D A N X)) := List.perm_iff_count.2 fun b => by
    simp [blks, List.count_append, List.count_cons, ownL, Value.ownBlock]
    try omega
  have hws := h.old.size
  have hwz := hgr.size
  have hn := e1.nodup_iff.1 h.apart.1
  obtain ⟨n1, n2, n3⟩ := List.nodup_append.1 hn
  have hin : ∀ b ∈ blks C M vE (.map none) vA vN E D A N X, w0.heap.size ≤ b ∧ b < w.heap.size := fun b hb => h.apart.2 b (e1.mem_iff.2 (List.mem_append_right _ hb))
  have hin2 : ∀ b ∈ ownL vD, w0.heap.size ≤ b ∧ b < w.heap.size := fun b hb => h.apart.2 b (e1.mem_iff.2 (List.mem_append_left _ hb))
  have hown : ∀ b, some b = vD.ownBlock → b ∈ ownL vD := fun b e => by unfold ownL; rw [← e]; simp
  have hvb : ∀ b ∈ ownL v', (b ∈ ownL vD ∨ b = w.heap.size) := fun b hb => by
    unfold ownL at hb ⊢
    rcases hbk with e | e
    · rw [e] at hb
      exact .inl hb
    · rw [e] at hb
      exact .inr (by simpa using hb)
  have hv1 : (ownL v').Nodup := by
    unfold ownL
    cases v'.ownBlock <;> simp
  have hCm : C ∈ blks C M vE (.map none) vA vN E D A N X := by simp [blks]
  have hvn : ∀ b ∈ ownL v', ∀ c ∈ blks C M vE (.map none) vA vN E D A N X, b ≠ c := fun b hb c hc e => by
    subst e
    rcases hvb b hb with h1 | h1
    · exact n3 b h1 b hc rfl
    · have := (hin b hc).2
      omega
  have hgC : p.g ≠ C := fun e => hg (by rw [e]; simp [blks])
  have hpok2 : p.i = 1 ∧ PeOk K w0 (w6.setCell ⟨C, 2, none⟩ v') p := ⟨hpok.1, hpok.2.keep (heap_set_other (g := C) (j := 2) (w := w6) v' hgC)⟩
  have kk : ∀ b ∈ M :: (blks C M vE (.map none) vA vN E D A N X).tail, (w6.setCell ⟨C, 2, none⟩ v').heap[b]? = w.heap[b]? := fun b hb => by
    have hb2 : b ∈ blks C M vE (.map none) vA vN E D A N X := by
      rcases List.mem_cons.1 hb with rfl | hb
      · simp [blks]
      · exact List.mem_of_mem_tail hb
    have hbC : b ≠ C := fun e => by
      subst e
      have h8 := n2
      unfold blks at h8 hb
      have h7 := (List.nodup_cons.1 h8).1
      rw [List.tail_cons] at hb
      rcases List.mem_cons.1 hb with rfl | hb
      · exact h7 (by simp)
      · exact h7 hb
    exact (heap_set_other _ hbC).trans (hgr.block b (hin b hb2).2 fun e => n3 b (hown b e) b hb2 rfl)
  have hbox6 : w6.heap[C]? = some (.cells (ecv vE vD vA vN M) 85 (0, 0)) := (hgr.block C (hin C hCm).2 fun e => n3 C (hown C e) C hCm rfl).trans h.box
  have hrow2 : Row (w6.setCell ⟨C, 2, none⟩ v') 147 2 v' ((D ++ [p]).map Pe.cells) := by
    rw [List.map_append]
    exact hrow.frame fun b hb => heap_set_other _ (hvn b hb C hCm)
  have hlt : ∀ b ∈ ownL v', b < w6.heap.size := fun b hb => (hrow.lt b hb).1
  have hkeep : Keeps (KX w0 X) w (w6.setCell ⟨C, 2, none⟩ v') := ⟨hgr.os, hgr.tape, hgr.output, by simpa using hgr.size, fun b hb => by
    rcases hb with hb | hb
    · have h1 : b ≠ C := fun e => by have := (hin C hCm).1; omega
      exact (heap_set_other _ h1).trans (hgr.block b (by omega) fun e => by have := (hin2 b (hown b e)).1; omega)
    · exact kk b (by simp [blks, hb])⟩
  refine ⟨⟨?_, h.rE.frame (fun b hb => kk b (by simp [blks, hb])), hrow2, h.rA.frame (fun b hb => kk b (by simp [blks, hb])), h.rN.frame (fun b hb => kk b (by simp [blks, hb])), h.txs.keep (kk M (by simp)), fun q hq => ⟨(h.pE q hq).1, (h.pE q hq).2.keep (kk _ (by have h9 : q.g ∈ E.map Pe.g := List.mem_map_of_mem hq; simp only [blks, List.tail_cons, List.mem_cons, List.mem_append]; simp [h9]))⟩, fun q hq => by
    rcases List.mem_append.1 hq with hq | hq
    · exact ⟨(h.pD q hq).1, (h.pD q hq).2.keep (kk _ (by have h9 : q.g ∈ D.map Pe.g := List.mem_map_of_mem hq; simp only [blks, List.tail_cons, List.mem_cons, List.mem_append]; simp [h9]))⟩
    · rw [List.mem_singleton] at hq
      rw [hq]
      exact hpok2, fun q hq => ⟨(h.pA q hq).1, (h.pA q hq).2.keep (kk _ (by have h9 : q.g ∈ A.map Pe.g := List.mem_map_of_mem hq; simp only [blks, List.tail_cons, List.mem_cons, List.mem_append]; simp [h9]))⟩, fun q hq => (h.pN q hq).keep (kk _ (by have h9 : q.g ∈ N.map Ne.g := List.mem_map_of_mem hq; simp only [blks, List.tail_cons, List.mem_cons, List.mem_append]; simp [h9])), ⟨e2.nodup_iff.2 (List.nodup_cons.2 ⟨fun hm => ?_, List.nodup_append.2 ⟨hv1, n2, hvn⟩⟩), fun b hb => ?_⟩, h.old.trans ⟨hkeep.os, hkeep.tape, hkeep.output, hkeep.size, fun b hb => hkeep.block b (.inl hb)⟩⟩, hkeep⟩
  · have h9 := heap_set_same (j := 2) v' hbox6
    simpa [ecv] using h9
  · rcases List.mem_append.1 hm with hm | hm
    · rcases hvb _ hm with h1 | h1
      · exact hg (e1.mem_iff.2 (List.mem_append_left _ h1))
      · omega
    · exact hg (e1.mem_iff.2 (List.mem_append_right _ hm))
  · have hs : (w6.setCell ⟨C, 2, none⟩ v').heap.size = w6.heap.size := by simp
    rw [hs]
    rcases List.mem_cons.1 (e2.mem_iff.1 hb) with rfl | hb
    · exact ⟨hg1, by omega⟩
    · rcases List.mem_append.1 hb with hb | hb
      · refine ⟨?_, hlt b hb⟩
        rcases hvb b hb with h1 | h1
        · exact (hin2 b h1).1
        · omega
      · have := hin b hb
        omega

set_option maxHeartbeats 4000000 in
set_option maxRecDepth 100000 in
theorem copy_1 {K : Nat → Prop} {w0 w : World} {C M : Nat} {E D A : List Pe} {N : List Ne} {X : List Nat} (hm : Mem K w0 C M E D A N X w) (h : Nat) (xs : List Tr) (o : Option Addr) (c : Nat) (hr : RowOf K w0 (rdI K w0 h 1) 9 o xs) (hf : xs.length ≤ c) (hln : xs.length ≤ 1048576) (hlen : D.length ≤ 3000000) :
    Calls Try.prog 42 #[.pointer (some ⟨C, 2, none⟩), .slice o xs.length c, .bool false] w fun e w' => ∃ v F, e = .returned v ∧ NewP 1 h xs v F ∧ Mem K w0 C M E (D ++ F) A N X w' ∧ Keeps (KX w0 X) w w' := by
  by_cases hne : xs = []
  · subst hne
    have HM := hide hm
    have HK : Hid (Keeps (KX w0 X) w w) := Keeps.refl _ _
    clear hm hr
    simp only [List.length_nil] at hf ⊢
    go_enter Try.func42, Try.ntmps42
    go_wp2
    go_ret
    exact ⟨_, [], rfl, .inl ⟨rfl, rfl, rfl⟩, by rw [List.append_nil]; exact HM.out, HK.out⟩
  obtain ⟨b, off, css, rfl, kb, hbl, hcl, hcz, hcc, hcr⟩ := row_css hr hne (by decide)
  have hne1 : xs.length ≠ 0 := fun e => hne (List.length_eq_zero_iff.1 e)
  obtain ⟨vE, vD, vA, vN, hm⟩ := hm
  have hfl := flat_len css hcz
  have hws := hm.old.size
  have h1c : ∀ u ∈ css.flatten, u.oneCell' = true := fun u hu => by
    obtain ⟨cs, hcs, hu⟩ := List.mem_flatten.1 hu
    obtain ⟨j, hj⟩ := List.mem_iff_getElem?.1 hcs
    have hjl : j < xs.length := by rw [← hcl]; exact (List.getElem?_eq_some_iff.1 hj).1
    obtain ⟨cs2, e1, e2⟩ := hcr j _ (List.getElem?_eq_getElem hjl)
    rw [hj] at e1
    cases e1
    exact rdI_one e2 u hu
  have HLK := hide (look_nil (ptrT_c (by decide : 1 < 3)) Try.underlying68 (z := .slice none 0 0) (fun w => by kernel_rfl) ⟨b, off, none⟩ xs.length)
  have hmk := make_Dec xs.length hln
  have HP := hide (placeOf_1 b off xs.length c hne1 (Nat.le_trans hln (by unfold maxLen; omega)) hf w)
  have hm1 : xs.length ≤ 9223372036854775807 := by omega
  have h2 : (0 : Int) < xs.length := by omega
  have h3 : ((xs.length : Int) == 0) = false := by simpa using hne1
  have HHM := hide hm
  have HCC := hide hcc
  have HCR := hide hcr
  have HCZ := hide hcz
  have H1C := hide h1c
  clear hm hr hcc hcr hcz h1c
  go_enter Try.func42, Try.ntmps42
  go_wp2_with fail
  refine HP.out.mono ?_
  rintro e w1 ⟨rfl, hb1⟩
  have hm1v := HHM.out.below hb1
  obtain ⟨W2, hW2⟩ : ∃ W, w1.alloc (.cells #[.iface (ptrT 1) (.pointer (some ⟨b, off, none⟩)), .int .i64 (xs.length : Int), .bool false] 123) = W := ⟨_, rfl⟩
  have hb2 : Below w1.heap.size w1 W2 := by rw [← hW2]; exact (Below.refl _ w1).alloc (Nat.le_refl _) _
  have hx2 : W2.heap[w1.heap.size]? = some (.cells #[.iface (ptrT 1) (.pointer (some ⟨b, off, none⟩)), .int .i64 (xs.length : Int), .bool false] 123 (0, 0)) := by rw [← hW2]; exact heap_alloc_new w1 _
  have hst2 : W2.setCell ⟨w1.heap.size, 2, none⟩ (.bool false) = W2 := set_self hx2 rfl
  have p1 := cell_of (hm1v.below hb2).box 3
  have y0 := cell_of hx2 0
  have y1 := cell_of hx2 1
  have y2 := cell_of hx2 2
  have g0 := frozen_of hx2 0
  have g1 := frozen_of hx2 1
  have g2 := frozen_of hx2 2
  simp only [ecv, List.getElem?_toArray, List.getElem?_cons_succ, List.getElem?_cons_zero] at p1 y0 y1 y2
  have hlk := HLK.out
  have HMV := hide ((hm1v.below hb2))
  have HB12 := hide (hb1.trans (hb2.mono hb1.size))
  have hz1 := HB12.out.size
  clear hb1 hm1v hb2 hx2 HP
  try unfold kvP
  go_upto_region 4 with fail
  go_quiet (fail)
  generalize hWd : W2.drewN _ = Wd
  have hbd : Below W2.heap.size W2 Wd := by rw [← hWd]; exact below_drewN (Below.refl _ W2) _
  have hmd := HMV.out.below hbd
  have hzd := hbd.size
  have HBD := hide (HB12.out.trans (hbd.mono hz1))
  clear hbd hW2 hst2 p1 y0 y1 y2 g0 g1 g2 hlk hWd
  obtain ⟨W3, hW3⟩ : ∃ W, Wd.alloc (.cells (madeCells #[.string ⟨#[]⟩, .slice none 0 0, .int .i64 0, .string ⟨#[]⟩, .int .i64 0, .slice none 0 0, .slice none 0 0, .slice none 0 0, .slice none 0 0] (xs.length * 9)) 44) = W := ⟨_, rfl⟩
  have hb3 : Below Wd.heap.size Wd W3 := by rw [← hW3]; exact (Below.refl _ Wd).alloc (Nat.le_refl _) _
  have hx3 : W3.heap[Wd.heap.size]? = some (.cells (madeCells #[.string ⟨#[]⟩, .slice none 0 0, .int .i64 0, .string ⟨#[]⟩, .int .i64 0, .slice none 0 0, .slice none 0 0, .slice none 0 0, .slice none 0 0] (xs.length * 9)) 44 (0, 0)) := by rw [← hW3]; exact heap_alloc_new Wd _
  have hmk2 := hmk Wd
  rw [hW3] at hmk2
  have hz3 := hb3.size
  have hsrc : ∀ (j : Nat) u, css.flatten[j]? = some u → W3.cell? ((⟨b, off, none⟩ : Addr).add j) = some u := fun j u hu => by
    have h9 := HCC.out j u hu
    have h8 : W3.heap[b]? = w0.heap[b]? := (hb3.block b (by omega)).trans (hmd.old.block b hbl)
    have h7 : (⟨b, off, none⟩ : Addr).add j = ⟨b, off + j, none⟩ := by unfold Addr.add; split <;> simp_all
    rw [h7]
    exact (World.cell?_of_block (a := ⟨b, off + j, none⟩) h8).trans h9
  have hcopy := fun ty => run_copy_big W3 29 29 ty 44 Wd.heap.size xs.length xs.length 9 ⟨b, off, none⟩ c _ _ css.flatten Try.underlying29 (by kernel_rfl) hx3 (by rw [hfl, hcl]) (by rw [size_madeCells]) hsrc H1C.out
  obtain ⟨W4, hW4⟩ : ∃ W, W3.setRow Wd.heap.size css.flatten.toArray = W := ⟨_, rfl⟩
  simp only [hW4] at hcopy
  have hb4 : Below Wd.heap.size Wd W4 := by rw [← hW4]; exact below_setRow hb3 (Nat.le_refl _) _
  have hx4 : W4.heap[Wd.heap.size]? = some (.cells css.flatten.toArray 44 (0, 0)) := by rw [← hW4]; exact setRow_heap W3 _ _ _ _ _ hx3
  have hm4 := hmd.below hb4
  have hz4 : Wd.heap.size < W4.heap.size := heap_lt hx4
  obtain ⟨i0, hi0, he0⟩ := Option.map_eq_some_iff.1 (show (Try.prog.info? 147).map (fun i => (i.zero.map (·.cells.size), i.size, i.bytes)) = some (some 2, 2, 32) by kernel_rfl)
  simp only [Prod.mk.injEq] at he0
  obtain ⟨z0, hzz, hzs⟩ := Option.map_eq_some_iff.1 he0.1
  have hr4 : Row W4 147 2 vD (D.map Pe.cells) := hm4.rD
  obtain ⟨ov, cv, ev, -⟩ := hr4.form
  rw [List.length_map] at ev
  obtain ⟨W5, hW5⟩ : ∃ W, W4.alloc (.cells #[.slice (some ⟨Wd.heap.size, 0, none⟩) xs.length xs.length, .bool false] 147) = W := ⟨_, rfl⟩
  have hb5 : Below W4.heap.size W4 W5 := by rw [← hW5]; exact (Below.refl _ W4).alloc (Nat.le_refl _) _
  have hx5 : W5.heap[W4.heap.size]? = some (.cells #[.slice (some ⟨Wd.heap.size, 0, none⟩) xs.length xs.length, .bool false] 147 (0, 0)) := by rw [← hW5]; exact heap_alloc_new W4 _
  have hm5 := hm4.below hb5
  obtain ⟨o', n', c', W6, happ, hrow6, hgr6, hbk6⟩ := Row.append Try.underlying67 hi0 hzz he0.2.1 he0.2.2 hzs (by decide) (by decide) (h := hm5.rD) (by rw [List.length_map]; omega) (a := W4.heap.size) (c := [.slice (some ⟨Wd.heap.size, 0, none⟩) xs.length xs.length, .bool false]) rfl (fun j u hu => by
    have h9 := cell_of hx5 j
    rw [List.getElem?_toArray, hu] at h9
    exact h9) (fun u hu => by
    simp only [List.mem_cons, List.not_mem_nil, or_false] at hu
    rcases hu with rfl | rfl <;> rfl) 67
  rw [ev] at happ
  have HAPP := hide happ
  have HM5 := hide hm5
  have HROW6 := hide hrow6
  have HGR6 := hide hgr6
  have HBK6 := hide hbk6
  have HEV := hide ev
  have hz5 := hb5.size
  have hCin : C ∈ blks C M vE vD vA vN E D A N X := by simp [blks]
  have hnd := hm5.apart.1
  have hCv : ∀ g, vD.ownBlock = some g → g ≠ C := fun g hg e => by
    have h9 : C ∈ ownL vD := by unfold ownL; rw [hg, e]; simp
    unfold blks at hnd
    exact (List.nodup_cons.1 hnd).1 (by simp [h9])
  have hC5 : W5.heap[C]? = some (.cells (ecv vE vD vA vN M) 85 (0, 0)) := hm5.box
  have hCl : C < W5.heap.size := heap_lt hC5
  have hC6 : W6.heap[C]? = some (.cells (ecv vE vD vA vN M) 85 (0, 0)) := (hgr6.block C hCl fun e => hCv C e.symm rfl).trans hC5
  have HC6 := hide hC6
  have HC4 := hide hm4.box
  have HB : Hid (Below w.heap.size w W5) := (HBD.out.trans (hb4.mono (by omega))).trans (hb5.mono (by omega))
  have HX4 := hide ((hb5.block _ hz4).trans hx4)
  have q0 := cell_of hm4.box 2
  have f6 := frozen_of hC6 2
  have r0 := cell_of hC6 2
  have r1 := cell_of hC6 3
  simp only [ecv, List.getElem?_toArray, List.getElem?_cons_succ, List.getElem?_cons_zero] at q0 r0 r1
  rw [ev] at q0 r0
  have hneq : ∀ w, (binOp BinOp.neq 68 (.map none) (.map none)).run Try.prog w = .ok (.bool false) w := fun w => by kernel_rfl
  have HNB : Hid (Wd.heap.size ∉ blks C M vE vD vA vN E D A N X) := hide fun hm => by
    have := (HHM.out.apart.2 _ hm).2
    have := HBD.out.size
    omega
  have HKB : Hid (Keeps (KX w0 X) w W5) := ⟨HB.out.os, HB.out.tape, HB.out.output, HB.out.size, fun b hb => HB.out.block b (by
    rcases hb with hb | hb
    · omega
    · exact (HHM.out.apart.2 b (by rw [blks_split]; exact List.mem_append_right _ hb)).2)⟩
  have HX6 : Hid (W6.heap[Wd.heap.size]? = some (.cells css.flatten.toArray 44 (0, 0))) := hide ((hgr6.block _ (by omega) fun e => by
    have h9 : Wd.heap.size ∈ ownL vD := by unfold ownL; rw [← e]; simp
    exact HNB.out (by simp [blks, h9])).trans HX4.out)
  have hgz : (0 : Int) ≤ (xs.length : Int) := by omega
  clear happ hmd hb3 hx3 hb4 hx4 hm4 hr4 hb5 hx5 hm5 hrow6 hgr6 hbk6 hnd hCv hC5 hC6 hsrc hmk hCin
  go_wp2_with (at_builtin; refine Lib.wpList_append_run _ rfl _ _ _ _ rfl _ _ rfl rfl _ _ HAPP.out ?_)
  go_ret
  have hpush := push_1 (p := (⟨1, Wd.heap.size, h, xs⟩ : Pe)) HM5.out HROW6.out HGR6.out HBK6.out (fun hm => HNB.out hm) (by show w0.heap.size ≤ Wd.heap.size; omega) (by show Wd.heap.size < _; omega) ⟨rfl, hne, hln, css, HX6.out, hcl, HCZ.out, HCR.out⟩
  refine ⟨_, [(⟨1, Wd.heap.size, h, xs⟩ : Pe)], rfl, .inr ⟨hne, _, rfl, rfl⟩, ⟨_, _, _, _, hpush.1⟩, (HKB.out).trans hpush.2⟩

/-- One row more is left. -/
theorem push_2 {K : Nat → Prop} {w0 w w6 : World} {C M : Nat} {E D A : List Pe} {N : List Ne} {X : List Nat} {vE vD vA vN v' : Value} {p : Pe} (h : MemV K w0 C M E D A N X w vE vD vA vN) (hrow : Row w6 159 2 v' (A.map Pe.cells ++ [p.cells])) (hgr : w.grownBy w6 vA.ownBlock) (hbk : v'.ownBlock = vA.ownBlock ∨ v'.ownBlock = some w.heap.size) (hg : p.g ∉ blks C M vE vD vA vN E D A N X) (hg1 : w0.heap.size ≤ p.g) (hg2 : p.g < w.heap.size) (hpok : p.i = 2 ∧ PeOk K w0 w6 p) :
    MemV K w0 C M E D (A ++ [p]) N X (w6.setCell ⟨C, 4, none⟩ v') vE vD v' vN ∧ Keeps (KX w0 X) w (w6.setCell ⟨C, 4, none⟩ v') := by
  have e1 : (blks C M vE vD vA vN E D A N X).Perm (ownL vA ++ blks C M vE vD (.map none) vN E D A N X) := List.perm_iff_count.2 fun b => by
    simp [blks, List.count_append, List.count_cons, ownL, Value.ownBlock]
    try omega
  have e2 : (blks C M vE vD v' vN E D (A ++ [p]) N X).Perm (p.g :: (ownL v' ++ blks C M vE vD (.map none) vN E D A N X)) := List.perm_iff_count.2 fun b => by
    simp [blks, List.count_append, List.count_cons, ownL, Value.ownBlock]
    try omega
  have hws := h.old.size
  have hwz := hgr.size
  have hn := e1.nodup_iff.1 h.apart.1
  obtain ⟨n1, n2, n3⟩ := List.nodup_append.1 hn
  have hin : ∀ b ∈ blks C M vE vD (.map none) vN E D A N X, w0.heap.size ≤ b ∧ b < w.heap.size := fun b hb => h.apart.2 b (e1.mem_iff.2 (List.mem_append_right _ hb))
  have hin2 : ∀ b ∈ ownL vA, w0.heap.size ≤ b ∧ b < w.heap.size := fun b hb => h.apart.2 b (e1.mem_iff.2 (List.mem_append_left _ hb))
  have hown : ∀ b, some b = vA.ownBlock → b ∈ ownL vA := fun b e => by unfold ownL; rw [← e]; simp
  have hvb : ∀ b ∈ ownL v', (b ∈ ownL vA ∨ b = w.heap.size) := fun b hb => by
    unfold ownL at hb ⊢
    rcases hbk with e | e
    · rw [e] at hb
      exact .inl hb
    · rw [e] at hb
      exact .inr (by simpa using hb)
  have hv1 : (ownL v').Nodup := by
    unfold ownL
    cases v'.ownBlock <;> simp
  have hCm : C ∈ blks C M vE vD (.map none) vN E D A N X := by simp [blks]
  have hvn : ∀ b ∈ ownL v', ∀ c ∈ blks C M vE vD (.map none) vN E D A N X, b ≠ c := fun b hb c hc e => by
    subst e
    rcases hvb b hb with h1 | h1
    · exact n3 b h1 b hc rfl
    · have := (hin b hc).2
      omega
  have hgC : p.g ≠ C := fun e => hg (by rw [e]; simp [blks])
  have hpok2 : p.i = 2 ∧ PeOk K w0 (w6.setCell ⟨C, 4, none⟩ v') p := ⟨hpok.1, hpok.2.keep (heap_set_other (g := C) (j := 4) (w := w6) v' hgC)⟩
  have kk : ∀ b ∈ M :: (blks C M vE vD (.map none) vN E D A N X).tail, (w6.setCell ⟨C, 4, none⟩ v').heap[b]? = w.heap[b]? := fun b hb => by
    have hb2 : b ∈ blks C M vE vD (.map none) vN E D A N X := by
      rcases List.mem_cons.1 hb with rfl | hb
      · simp [blks]
      · exact List.mem_of_mem_tail hb
    have hbC : b ≠ C := fun e => by
      subst e
      have h8 := n2
      unfold blks at h8 hb
      have h7 := (List.nodup_cons.1 h8).1
      rw [List.tail_cons] at hb
      rcases List.mem_cons.1 hb with rfl | hb
      · exact h7 (by simp)
      · exact h7 hb
    exact (heap_set_other _ hbC).trans (hgr.block b (hin b hb2).2 fun e => n3 b (hown b e) b hb2 rfl)
  have hbox6 : w6.heap[C]? = some (.cells (ecv vE vD vA vN M) 85 (0, 0)) := (hgr.block C (hin C hCm).2 fun e => n3 C (hown C e) C hCm rfl).trans h.box
  have hrow2 : Row (w6.setCell ⟨C, 4, none⟩ v') 159 2 v' ((A ++ [p]).map Pe.cells) := by
    rw [List.map_append]
    exact hrow.frame fun b hb => heap_set_other _ (hvn b hb C hCm)
  have hlt : ∀ b ∈ ownL v', b < w6.heap.size := fun b hb => (hrow.lt b hb).1
  have hkeep : Keeps (KX w0 X) w (w6.setCell ⟨C, 4, none⟩ v') := ⟨hgr.os, hgr.tape, hgr.output, by simpa using hgr.size, fun b hb => by
    rcases hb with hb | hb
    · have h1 : b ≠ C := fun e => by have := (hin C hCm).1; omega
      exact (heap_set_other _ h1).trans (hgr.block b (by omega) fun e => by have := (hin2 b (hown b e)).1; omega)
    · exact kk b (by simp [blks, hb])⟩
  refine ⟨⟨?_, h.rE.frame (fun b hb => kk b (by simp [blks, hb])), h.rD.frame (fun b hb => kk b (by simp [blks, hb])), hrow2, h.rN.frame (fun b hb => kk b (by simp [blks, hb])), h.txs.keep (kk M (by simp)), fun q hq => ⟨(h.pE q hq).1, (h.pE q hq).2.keep (kk _ (by have h9 : q.g ∈ E.map Pe.g := List.mem_map_of_mem hq; simp only [blks, List.tail_cons, List.mem_cons, List.mem_append]; simp [h9]))⟩, fun q hq => ⟨(h.pD q hq).1, (h.pD q hq).2.keep (kk _ (by have h9 : q.g ∈ D.map Pe.g := List.mem_map_of_mem hq; simp only [blks, List.tail_cons, List.mem_cons, List.mem_append]; simp [h9]))⟩, fun q hq => by
    rcases List.mem_append.1 hq with hq | hq
    · exact ⟨(h.pA q hq).1, (h.pA q hq).2.keep (kk _ (by have h9 : q.g ∈ A.map Pe.g := List.mem_map_of_mem hq; simp only [blks, List.tail_cons, List.mem_cons, List.mem_append]; simp [h9]))⟩
    · rw [List.mem_singleton] at hq
      rw [hq]
      exact hpok2, fun q hq => (h.pN q hq).keep (kk _ (by have h9 : q.g ∈ N.map Ne.g := List.mem_map_of_mem hq; simp only [blks, List.tail_cons, List.mem_cons, List.mem_append]; simp [h9])), ⟨e2.nodup_iff.2 (List.nodup_cons.2 ⟨fun hm => ?_, List.nodup_append.2 ⟨hv1, n2, hvn⟩⟩), fun b hb => ?_⟩, h.old.trans ⟨hkeep.os, hkeep.tape, hkeep.output, hkeep.size, fun b hb => hkeep.block b (.inl hb)⟩⟩, hkeep⟩
  · have h9 := heap_set_same (j := 4) v' hbox6
    simpa [ecv] using h9
  · rcases List.mem_append.1 hm with hm | hm
    · rcases hvb _ hm with h1 | h1
      · exact hg (e1.mem_iff.2 (List.mem_append_left _ h1))
      · omega
    · exact hg (e1.mem_iff.2 (List.mem_append_right _ hm))
  · have hs : (w6.setCell ⟨C, 4, none⟩ v').heap.size = w6.heap.size := by simp
    rw [hs]
    rcases List.mem_cons.1 (e2.mem_iff.1 hb) with rfl | hb
    · exact ⟨hg1, by omega⟩
    · rcases List.mem_append.1 hb with hb | hb
      · refine ⟨?_, hlt b hb⟩
        rcases hvb b hb with h1 | h1
        · exact (hin2 b h1).1
        · omega
      · have := hin b hb
        omega

set_option maxHeartbeats 4000000 in
set_option maxRecDepth 100000 in
theorem copy_2 {K : Nat → Prop} {w0 w : World} {C M : Nat} {E D A : List Pe} {N : List Ne} {X : List Nat} (hm : Mem K w0 C M E D A N X w) (h : Nat) (xs : List Tr) (o : Option Addr) (c : Nat) (hr : RowOf K w0 (rdI K w0 h 2) 8 o xs) (hf : xs.length ≤ c) (hln : xs.length ≤ 1048576) (hlen : A.length ≤ 3000000) :
    Calls Try.prog 75 #[.pointer (some ⟨C, 4, none⟩), .slice o xs.length c, .bool false] w fun e w' => ∃ v F, e = .returned v ∧ NewP 2 h xs v F ∧ Mem K w0 C M E D (A ++ F) N X w' ∧ Keeps (KX w0 X) w w' := by
  by_cases hne : xs = []
  · subst hne
    have HM := hide hm
    have HK : Hid (Keeps (KX w0 X) w w) := Keeps.refl _ _
    clear hm hr
    simp only [List.length_nil] at hf ⊢
    go_enter Try.func75, Try.ntmps75
    go_wp2
    go_ret
    exact ⟨_, [], rfl, .inl ⟨rfl, rfl, rfl⟩, by rw [List.append_nil]; exact HM.out, HK.out⟩
  obtain ⟨b, off, css, rfl, kb, hbl, hcl, hcz, hcc, hcr⟩ := row_css hr hne (by decide)
  have hne1 : xs.length ≠ 0 := fun e => hne (List.length_eq_zero_iff.1 e)
  obtain ⟨vE, vD, vA, vN, hm⟩ := hm
  have hfl := flat_len css hcz
  have hws := hm.old.size
  have h1c : ∀ u ∈ css.flatten, u.oneCell' = true := fun u hu => by
    obtain ⟨cs, hcs, hu⟩ := List.mem_flatten.1 hu
    obtain ⟨j, hj⟩ := List.mem_iff_getElem?.1 hcs
    have hjl : j < xs.length := by rw [← hcl]; exact (List.getElem?_eq_some_iff.1 hj).1
    obtain ⟨cs2, e1, e2⟩ := hcr j _ (List.getElem?_eq_getElem hjl)
    rw [hj] at e1
    cases e1
    exact rdI_one e2 u hu
  have HLK := hide (look_nil (ptrT_c (by decide : 2 < 3)) Try.underlying72 (z := .slice none 0 0) (fun w => by kernel_rfl) ⟨b, off, none⟩ xs.length)
  have hmk := make_Alt xs.length hln
  have HP := hide (placeOf_2 b off xs.length c hne1 (Nat.le_trans hln (by unfold maxLen; omega)) hf w)
  have hm1 : xs.length ≤ 9223372036854775807 := by omega
  have h2 : (0 : Int) < xs.length := by omega
  have h3 : ((xs.length : Int) == 0) = false := by simpa using hne1
  have HHM := hide hm
  have HCC := hide hcc
  have HCR := hide hcr
  have HCZ := hide hcz
  have H1C := hide h1c
  clear hm hr hcc hcr hcz h1c
  go_enter Try.func75, Try.ntmps75
  go_wp2_with fail
  refine HP.out.mono ?_
  rintro e w1 ⟨rfl, hb1⟩
  have hm1v := HHM.out.below hb1
  obtain ⟨W2, hW2⟩ : ∃ W, w1.alloc (.cells #[.iface (ptrT 2) (.pointer (some ⟨b, off, none⟩)), .int .i64 (xs.length : Int), .bool false] 123) = W := ⟨_, rfl⟩
  have hb2 : Below w1.heap.size w1 W2 := by rw [← hW2]; exact (Below.refl _ w1).alloc (Nat.le_refl _) _
  have hx2 : W2.heap[w1.heap.size]? = some (.cells #[.iface (ptrT 2) (.pointer (some ⟨b, off, none⟩)), .int .i64 (xs.length : Int), .bool false] 123 (0, 0)) := by rw [← hW2]; exact heap_alloc_new w1 _
  have hst2 : W2.setCell ⟨w1.heap.size, 2, none⟩ (.bool false) = W2 := set_self hx2 rfl
  have p1 := cell_of (hm1v.below hb2).box 5
  have y0 := cell_of hx2 0
  have y1 := cell_of hx2 1
  have y2 := cell_of hx2 2
  have g0 := frozen_of hx2 0
  have g1 := frozen_of hx2 1
  have g2 := frozen_of hx2 2
  simp only [ecv, List.getElem?_toArray, List.getElem?_cons_succ, List.getElem?_cons_zero] at p1 y0 y1 y2
  have hlk := HLK.out
  have HMV := hide ((hm1v.below hb2))
  have HB12 := hide (hb1.trans (hb2.mono hb1.size))
  have hz1 := HB12.out.size
  clear hb1 hm1v hb2 hx2 HP
  try unfold kvP
  go_upto_region 4 with fail
  go_quiet (fail)
  generalize hWd : W2.drewN _ = Wd
  have hbd : Below W2.heap.size W2 Wd := by rw [← hWd]; exact below_drewN (Below.refl _ W2) _
  have hmd := HMV.out.below hbd
  have hzd := hbd.size
  have HBD := hide (HB12.out.trans (hbd.mono hz1))
  clear hbd hW2 hst2 p1 y0 y1 y2 g0 g1 g2 hlk hWd
  obtain ⟨W3, hW3⟩ : ∃ W, Wd.alloc (.cells (madeCells #[.string ⟨#[]⟩, .slice none 0 0, .int .i64 0, .string ⟨#[]⟩, .int .i64 0, .slice none 0 0, .slice none 0 0, .slice none 0 0] (xs.length * 8)) 54) = W := ⟨_, rfl⟩
  have hb3 : Below Wd.heap.size Wd W3 := by rw [← hW3]; exact (Below.refl _ Wd).alloc (Nat.le_refl _) _
  have hx3 : W3.heap[Wd.heap.size]? = some (.cells (madeCells #[.string ⟨#[]⟩, .slice none 0 0, .int .i64 0, .string ⟨#[]⟩, .int .i64 0, .slice none 0 0, .slice none 0 0, .slice none 0 0] (xs.length * 8)) 54 (0, 0)) := by rw [← hW3]; exact heap_alloc_new Wd _
  have hmk2 := hmk Wd
  rw [hW3] at hmk2
  have hz3 := hb3.size
  have hsrc : ∀ (j : Nat) u, css.flatten[j]? = some u → W3.cell? ((⟨b, off, none⟩ : Addr).add j) = some u := fun j u hu => by
    have h9 := HCC.out j u hu
    have h8 : W3.heap[b]? = w0.heap[b]? := (hb3.block b (by omega)).trans (hmd.old.block b hbl)
    have h7 : (⟨b, off, none⟩ : Addr).add j = ⟨b, off + j, none⟩ := by unfold Addr.add; split <;> simp_all
    rw [h7]
    exact (World.cell?_of_block (a := ⟨b, off + j, none⟩) h8).trans h9
  have hcopy := fun ty => run_copy_big W3 30 30 ty 54 Wd.heap.size xs.length xs.length 8 ⟨b, off, none⟩ c _ _ css.flatten Try.underlying30 (by kernel_rfl) hx3 (by rw [hfl, hcl]) (by rw [size_madeCells]) hsrc H1C.out
  obtain ⟨W4, hW4⟩ : ∃ W, W3.setRow Wd.heap.size css.flatten.toArray = W := ⟨_, rfl⟩
  simp only [hW4] at hcopy
  have hb4 : Below Wd.heap.size Wd W4 := by rw [← hW4]; exact below_setRow hb3 (Nat.le_refl _) _
  have hx4 : W4.heap[Wd.heap.size]? = some (.cells css.flatten.toArray 54 (0, 0)) := by rw [← hW4]; exact setRow_heap W3 _ _ _ _ _ hx3
  have hm4 := hmd.below hb4
  have hz4 : Wd.heap.size < W4.heap.size := heap_lt hx4
  obtain ⟨i0, hi0, he0⟩ := Option.map_eq_some_iff.1 (show (Try.prog.info? 159).map (fun i => (i.zero.map (·.cells.size), i.size, i.bytes)) = some (some 2, 2, 32) by kernel_rfl)
  simp only [Prod.mk.injEq] at he0
  obtain ⟨z0, hzz, hzs⟩ := Option.map_eq_some_iff.1 he0.1
  have hr4 : Row W4 159 2 vA (A.map Pe.cells) := hm4.rA
  obtain ⟨ov, cv, ev, -⟩ := hr4.form
  rw [List.length_map] at ev
  obtain ⟨W5, hW5⟩ : ∃ W, W4.alloc (.cells #[.slice (some ⟨Wd.heap.size, 0, none⟩) xs.length xs.length, .bool false] 159) = W := ⟨_, rfl⟩
  have hb5 : Below W4.heap.size W4 W5 := by rw [← hW5]; exact (Below.refl _ W4).alloc (Nat.le_refl _) _
  have hx5 : W5.heap[W4.heap.size]? = some (.cells #[.slice (some ⟨Wd.heap.size, 0, none⟩) xs.length xs.length, .bool false] 159 (0, 0)) := by rw [← hW5]; exact heap_alloc_new W4 _
  have hm5 := hm4.below hb5
  obtain ⟨o', n', c', W6, happ, hrow6, hgr6, hbk6⟩ := Row.append Try.underlying71 hi0 hzz he0.2.1 he0.2.2 hzs (by decide) (by decide) (h := hm5.rA) (by rw [List.length_map]; omega) (a := W4.heap.size) (c := [.slice (some ⟨Wd.heap.size, 0, none⟩) xs.length xs.length, .bool false]) rfl (fun j u hu => by
    have h9 := cell_of hx5 j
    rw [List.getElem?_toArray, hu] at h9
    exact h9) (fun u hu => by
    simp only [List.mem_cons, List.not_mem_nil, or_false] at hu
    rcases hu with rfl | rfl <;> rfl) 71
  rw [ev] at happ
  have HAPP := hide happ
  have HM5 := hide hm5
  have HROW6 := hide hrow6
  have HGR6 := hide hgr6
  have HBK6 := hide hbk6
  have HEV := hide ev
  have hz5 := hb5.size
  have hCin : C ∈ blks C M vE vD vA vN E D A N X := by simp [blks]
  have hnd := hm5.apart.1
  have hCv : ∀ g, vA.ownBlock = some g → g ≠ C := fun g hg e => by
    have h9 : C ∈ ownL vA := by unfold ownL; rw [hg, e]; simp
    unfold blks at hnd
    exact (List.nodup_cons.1 hnd).1 (by simp [h9])
  have hC5 : W5.heap[C]? = some (.cells (ecv vE vD vA vN M) 85 (0, 0)) := hm5.box
  have hCl : C < W5.heap.size := heap_lt hC5
  have hC6 : W6.heap[C]? = some (.cells (ecv vE vD vA vN M) 85 (0, 0)) := (hgr6.block C hCl fun e => hCv C e.symm rfl).trans hC5
  have HC6 := hide hC6
  have HC4 := hide hm4.box
  have HB : Hid (Below w.heap.size w W5) := (HBD.out.trans (hb4.mono (by omega))).trans (hb5.mono (by omega))
  have HX4 := hide ((hb5.block _ hz4).trans hx4)
  have q0 := cell_of hm4.box 4
  have f6 := frozen_of hC6 4
  have r0 := cell_of hC6 4
  have r1 := cell_of hC6 5
  simp only [ecv, List.getElem?_toArray, List.getElem?_cons_succ, List.getElem?_cons_zero] at q0 r0 r1
  rw [ev] at q0 r0
  have hneq : ∀ w, (binOp BinOp.neq 72 (.map none) (.map none)).run Try.prog w = .ok (.bool false) w := fun w => by kernel_rfl
  have HNB : Hid (Wd.heap.size ∉ blks C M vE vD vA vN E D A N X) := hide fun hm => by
    have := (HHM.out.apart.2 _ hm).2
    have := HBD.out.size
    omega
  have HKB : Hid (Keeps (KX w0 X) w W5) := ⟨HB.out.os, HB.out.tape, HB.out.output, HB.out.size, fun b hb => HB.out.block b (by
    rcases hb with hb | hb
    · omega
    · exact (HHM.out.apart.2 b (by rw [blks_split]; exact List.mem_append_right _ hb)).2)⟩
  have HX6 : Hid (W6.heap[Wd.heap.size]? = some (.cells css.flatten.toArray 54 (0, 0))) := hide ((hgr6.block _ (by omega) fun e => by
    have h9 : Wd.heap.size ∈ ownL vA := by unfold ownL; rw [← e]; simp
    exact HNB.out (by simp [blks, h9])).trans HX4.out)
  have hgz : (0 : Int) ≤ (xs.length : Int) := by omega
  clear happ hmd hb3 hx3 hb4 hx4 hm4 hr4 hb5 hx5 hm5 hrow6 hgr6 hbk6 hnd hCv hC5 hC6 hsrc hmk hCin
  go_wp2_with (at_builtin; refine Lib.wpList_append_run _ rfl _ _ _ _ rfl _ _ rfl rfl _ _ HAPP.out ?_)
  go_ret
  have hpush := push_2 (p := (⟨2, Wd.heap.size, h, xs⟩ : Pe)) HM5.out HROW6.out HGR6.out HBK6.out (fun hm => HNB.out hm) (by show w0.heap.size ≤ Wd.heap.size; omega) (by show Wd.heap.size < _; omega) ⟨rfl, hne, hln, css, HX6.out, hcl, HCZ.out, HCR.out⟩
  refine ⟨_, [(⟨2, Wd.heap.size, h, xs⟩ : Pe)], rfl, .inr ⟨hne, _, rfl, rfl⟩, ⟨_, _, _, _, hpush.1⟩, (HKB.out).trans hpush.2⟩

/-- One row more is left. -/
theorem push_3 {K : Nat → Prop} {w0 w w6 : World} {C M : Nat} {E D A : List Pe} {N : List Ne} {X : List Nat} {vE vD vA vN v' : Value} {p : Ne} (h : MemV K w0 C M E D A N X w vE vD vA vN) (hrow : Row w6 164 2 v' (N.map Ne.cells ++ [p.cells])) (hgr : w.grownBy w6 vN.ownBlock) (hbk : v'.ownBlock = vN.ownBlock ∨ v'.ownBlock = some w.heap.size) (hg : p.g ∉ blks C M vE vD vA vN E D A N X) (hg1 : w0.heap.size ≤ p.g) (hg2 : p.g < w.heap.size) (hpok : NeOk w6 p) :
    MemV K w0 C M E D A (N ++ [p]) X (w6.setCell ⟨C, 6, none⟩ v') vE vD vA v' ∧ Keeps (KX w0 X) w (w6.setCell ⟨C, 6, none⟩ v') := by
  have e1 : (blks C M vE vD vA vN E D A N X).Perm (ownL vN ++ blks C M vE vD vA (.map none) E D A N X) := List.perm_iff_count.2 fun b => by
    simp [blks, List.count_append, List.count_cons, ownL, Value.ownBlock]
    try omega
  have e2 : (blks C M vE vD vA v' E D A (N ++ [p]) X).Perm (p.g :: (ownL v' ++ blks C M vE vD vA (.map none) E D A N X)) := List.perm_iff_count.2 fun b => by
    simp [blks, List.count_append, List.count_cons, ownL, Value.ownBlock]
    try omega
  have hws := h.old.size
  have hwz := hgr.size
  have hn := e1.nodup_iff.1 h.apart.1
  obtain ⟨n1, n2, n3⟩ := List.nodup_append.1 hn
  have hin : ∀ b ∈ blks C M vE vD vA (.map none) E D A N X, w0.heap.size ≤ b ∧ b < w.heap.size := fun b hb => h.apart.2 b (e1.mem_iff.2 (List.mem_append_right _ hb))
  have hin2 : ∀ b ∈ ownL vN, w0.heap.size ≤ b ∧ b < w.heap.size := fun b hb => h.apart.2 b (e1.mem_iff.2 (List.mem_append_left _ hb))
  have hown : ∀ b, some b = vN.ownBlock → b ∈ ownL vN := fun b e => by unfold ownL; rw [← e]; simp
  have hvb : ∀ b ∈ ownL v', (b ∈ ownL vN ∨ b = w.heap.size) := fun b hb => by
    unfold ownL at hb ⊢
    rcases hbk with e | e
    · rw [e] at hb
      exact .inl hb
    · rw [e] at hb
      exact .inr (by simpa using hb)
  have hv1 : (ownL v').Nodup := by
    unfold ownL
    cases v'.ownBlock <;> simp
  have hCm : C ∈ blks C M vE vD vA (.map none) E D A N X := by simp [blks]
  have hvn : ∀ b ∈ ownL v', ∀ c ∈ blks C M vE vD vA (.map none) E D A N X, b ≠ c := fun b hb c hc e => by
    subst e
    rcases hvb b hb with h1 | h1
    · exact n3 b h1 b hc rfl
    · have := (hin b hc).2
      omega
  have hgC : p.g ≠ C := fun e => hg (by rw [e]; simp [blks])
  have hpok2 : NeOk (w6.setCell ⟨C, 6, none⟩ v') p := hpok.keep (heap_set_other (g := C) (j := 6) (w := w6) v' hgC)
  have kk : ∀ b ∈ M :: (blks C M vE vD vA (.map none) E D A N X).tail, (w6.setCell ⟨C, 6, none⟩ v').heap[b]? = w.heap[b]? := fun b hb => by
    have hb2 : b ∈ blks C M vE vD vA (.map none) E D A N X := by
      rcases List.mem_cons.1 hb with rfl | hb
      · simp [blks]
      · exact List.mem_of_mem_tail hb
    have hbC : b ≠ C := fun e => by
      subst e
      have h8 := n2
      unfold blks at h8 hb
      have h7 := (List.nodup_cons.1 h8).1
      rw [List.tail_cons] at hb
      rcases List.mem_cons.1 hb with rfl | hb
      · exact h7 (by simp)
      · exact h7 hb
    exact (heap_set_other _ hbC).trans (hgr.block b (hin b hb2).2 fun e => n3 b (hown b e) b hb2 rfl)
  have hbox6 : w6.heap[C]? = some (.cells (ecv vE vD vA vN M) 85 (0, 0)) := (hgr.block C (hin C hCm).2 fun e => n3 C (hown C e) C hCm rfl).trans h.box
  have hrow2 : Row (w6.setCell ⟨C, 6, none⟩ v') 164 2 v' ((N ++ [p]).map Ne.cells) := by
    rw [List.map_append]
    exact hrow.frame fun b hb => heap_set_other _ (hvn b hb C hCm)
  have hlt : ∀ b ∈ ownL v', b < w6.heap.size := fun b hb => (hrow.lt b hb).1
  have hkeep : Keeps (KX w0 X) w (w6.setCell ⟨C, 6, none⟩ v') := ⟨hgr.os, hgr.tape, hgr.output, by simpa using hgr.size, fun b hb => by
    rcases hb with hb | hb
    · have h1 : b ≠ C := fun e => by have := (hin C hCm).1; omega
      exact (heap_set_other _ h1).trans (hgr.block b (by omega) fun e => by have := (hin2 b (hown b e)).1; omega)
    · exact kk b (by simp [blks, hb])⟩
  refine ⟨⟨?_, h.rE.frame (fun b hb => kk b (by simp [blks, hb])), h.rD.frame (fun b hb => kk b (by simp [blks, hb])), h.rA.frame (fun b hb => kk b (by simp [blks, hb])), hrow2, h.txs.keep (kk M (by simp)), fun q hq => ⟨(h.pE q hq).1, (h.pE q hq).2.keep (kk _ (by have h9 : q.g ∈ E.map Pe.g := List.mem_map_of_mem hq; simp only [blks, List.tail_cons, List.mem_cons, List.mem_append]; simp [h9]))⟩, fun q hq => ⟨(h.pD q hq).1, (h.pD q hq).2.keep (kk _ (by have h9 : q.g ∈ D.map Pe.g := List.mem_map_of_mem hq; simp only [blks, List.tail_cons, List.mem_cons, List.mem_append]; simp [h9]))⟩, fun q hq => ⟨(h.pA q hq).1, (h.pA q hq).2.keep (kk _ (by have h9 : q.g ∈ A.map Pe.g := List.mem_map_of_mem hq; simp only [blks, List.tail_cons, List.mem_cons, List.mem_append]; simp [h9]))⟩, fun q hq => by
    rcases List.mem_append.1 hq with hq | hq
    · exact (h.pN q hq).keep (kk _ (by have h9 : q.g ∈ N.map Ne.g := List.mem_map_of_mem hq; simp only [blks, List.tail_cons, List.mem_cons, List.mem_append]; simp [h9]))
    · rw [List.mem_singleton] at hq
      rw [hq]
      exact hpok2, ⟨e2.nodup_iff.2 (List.nodup_cons.2 ⟨fun hm => ?_, List.nodup_append.2 ⟨hv1, n2, hvn⟩⟩), fun b hb => ?_⟩, h.old.trans ⟨hkeep.os, hkeep.tape, hkeep.output, hkeep.size, fun b hb => hkeep.block b (.inl hb)⟩⟩, hkeep⟩
  · have h9 := heap_set_same (j := 6) v' hbox6
    simpa [ecv] using h9
  · rcases List.mem_append.1 hm with hm | hm
    · rcases hvb _ hm with h1 | h1
      · exact hg (e1.mem_iff.2 (List.mem_append_left _ h1))
      · omega
    · exact hg (e1.mem_iff.2 (List.mem_append_right _ hm))
  · have hs : (w6.setCell ⟨C, 6, none⟩ v').heap.size = w6.heap.size := by simp
    rw [hs]
    rcases List.mem_cons.1 (e2.mem_iff.1 hb) with rfl | hb
    · exact ⟨hg1, by omega⟩
    · rcases List.mem_append.1 hb with hb | hb
      · refine ⟨?_, hlt b hb⟩
        rcases hvb b hb with h1 | h1
        · exact (hin2 b h1).1
        · omega
      · have := hin b hb
        omega

set_option maxHeartbeats 4000000 in
set_option maxRecDepth 100000 in
theorem copy_3 {K : Nat → Prop} {w0 w : World} {C M : Nat} {E D A : List Pe} {N : List Ne} {X : List Nat} (hm : Mem K w0 C M E D A N X w) (ss : List ByteArray) (o : Option Addr) (c : Nat) (hr : RowOf K w0 strR 1 o ss) (hsz : ∀ s ∈ ss, s.size ≤ 1048576) (hf : ss.length ≤ c) (hln : ss.length ≤ 1048576) (hlen : N.length ≤ 3000000) :
    Calls Try.prog 77 #[.pointer (some ⟨C, 6, none⟩), .slice o ss.length c, .bool false] w fun e w' => ∃ v F, e = .returned v ∧ NewN ss v F ∧ Mem K w0 C M E D A (N ++ F) X w' ∧ Keeps (KX w0 X) w w' := by
  by_cases hne : ss = []
  · subst hne
    have HM := hide hm
    have HK : Hid (Keeps (KX w0 X) w w) := Keeps.refl _ _
    clear hm hr
    simp only [List.length_nil] at hf ⊢
    go_enter Try.func77, Try.ntmps77
    go_wp2
    go_ret
    exact ⟨_, [], rfl, .inl ⟨rfl, rfl, rfl⟩, by rw [List.append_nil]; exact HM.out, HK.out⟩
  obtain ⟨b, off, css, rfl, kb, hbl, hcl, hcz, hcc, hcr⟩ := row_css hr hne (by decide)
  have hne1 : ss.length ≠ 0 := fun e => hne (List.length_eq_zero_iff.1 e)
  obtain ⟨vE, vD, vA, vN, hm⟩ := hm
  have hfl := flat_len css hcz
  have hws := hm.old.size
  have h1c : ∀ u ∈ css.flatten, u.oneCell' = true := fun u hu => by
    obtain ⟨cs, hcs, hu⟩ := List.mem_flatten.1 hu
    obtain ⟨j, hj⟩ := List.mem_iff_getElem?.1 hcs
    have hjl : j < ss.length := by rw [← hcl]; exact (List.getElem?_eq_some_iff.1 hj).1
    obtain ⟨cs2, e1, e2⟩ := hcr j _ (List.getElem?_eq_getElem hjl)
    rw [hj] at e1
    cases e1
    rw [e2.1, List.mem_singleton] at hu; rw [hu]; rfl
  have HLK := hide (look_nil strP_c Try.underlying76 (z := .slice none 0 0) (fun w => by kernel_rfl) ⟨b, off, none⟩ ss.length)
  have hmk := make_strs ss.length hln
  have HP := hide (placeOf_3 b off ss.length c hne1 (Nat.le_trans hln (by unfold maxLen; omega)) hf w)
  have hm1 : ss.length ≤ 9223372036854775807 := by omega
  have h2 : (0 : Int) < ss.length := by omega
  have h3 : ((ss.length : Int) == 0) = false := by simpa using hne1
  have HHM := hide hm
  have HCC := hide hcc
  have HCR := hide hcr
  have HCZ := hide hcz
  have H1C := hide h1c
  clear hm hr hcc hcr hcz h1c
  go_enter Try.func77, Try.ntmps77
  go_wp2_with fail
  refine HP.out.mono ?_
  rintro e w1 ⟨rfl, hb1⟩
  have hm1v := HHM.out.below hb1
  obtain ⟨W2, hW2⟩ : ∃ W, w1.alloc (.cells #[.iface 165 (.pointer (some ⟨b, off, none⟩)), .int .i64 (ss.length : Int), .bool false] 123) = W := ⟨_, rfl⟩
  have hb2 : Below w1.heap.size w1 W2 := by rw [← hW2]; exact (Below.refl _ w1).alloc (Nat.le_refl _) _
  have hx2 : W2.heap[w1.heap.size]? = some (.cells #[.iface 165 (.pointer (some ⟨b, off, none⟩)), .int .i64 (ss.length : Int), .bool false] 123 (0, 0)) := by rw [← hW2]; exact heap_alloc_new w1 _
  have hst2 : W2.setCell ⟨w1.heap.size, 2, none⟩ (.bool false) = W2 := set_self hx2 rfl
  have p1 := cell_of (hm1v.below hb2).box 7
  have y0 := cell_of hx2 0
  have y1 := cell_of hx2 1
  have y2 := cell_of hx2 2
  have g0 := frozen_of hx2 0
  have g1 := frozen_of hx2 1
  have g2 := frozen_of hx2 2
  simp only [ecv, List.getElem?_toArray, List.getElem?_cons_succ, List.getElem?_cons_zero] at p1 y0 y1 y2
  have hlk := HLK.out
  have HMV := hide ((hm1v.below hb2))
  have HB12 := hide (hb1.trans (hb2.mono hb1.size))
  have hz1 := HB12.out.size
  clear hb1 hm1v hb2 hx2 HP
  try unfold kvP
  go_upto_region 4 with fail
  go_quiet (fail)
  generalize hWd : W2.drewN _ = Wd
  have hbd : Below W2.heap.size W2 Wd := by rw [← hWd]; exact below_drewN (Below.refl _ W2) _
  have hmd := HMV.out.below hbd
  have hzd := hbd.size
  have HBD := hide (HB12.out.trans (hbd.mono hz1))
  clear hbd hW2 hst2 p1 y0 y1 y2 g0 g1 g2 hlk hWd
  obtain ⟨W3, hW3⟩ : ∃ W, Wd.alloc (.cells (madeCells #[.string ⟨#[]⟩] (ss.length * 1)) 9) = W := ⟨_, rfl⟩
  have hb3 : Below Wd.heap.size Wd W3 := by rw [← hW3]; exact (Below.refl _ Wd).alloc (Nat.le_refl _) _
  have hx3 : W3.heap[Wd.heap.size]? = some (.cells (madeCells #[.string ⟨#[]⟩] (ss.length * 1)) 9 (0, 0)) := by rw [← hW3]; exact heap_alloc_new Wd _
  have hmk2 := hmk Wd
  rw [hW3] at hmk2
  have hz3 := hb3.size
  have hsrc : ∀ (j : Nat) u, css.flatten[j]? = some u → W3.cell? ((⟨b, off, none⟩ : Addr).add j) = some u := fun j u hu => by
    have h9 := HCC.out j u hu
    have h8 : W3.heap[b]? = w0.heap[b]? := (hb3.block b (by omega)).trans (hmd.old.block b hbl)
    have h7 : (⟨b, off, none⟩ : Addr).add j = ⟨b, off + j, none⟩ := by unfold Addr.add; split <;> simp_all
    rw [h7]
    exact (World.cell?_of_block (a := ⟨b, off + j, none⟩) h8).trans h9
  have hcopy := fun ty => run_copy_big W3 38 38 ty 9 Wd.heap.size ss.length ss.length 1 ⟨b, off, none⟩ c _ _ css.flatten Try.underlying38 (by kernel_rfl) hx3 (by rw [hfl, hcl]) (by rw [size_madeCells]) hsrc H1C.out
  obtain ⟨W4, hW4⟩ : ∃ W, W3.setRow Wd.heap.size css.flatten.toArray = W := ⟨_, rfl⟩
  simp only [hW4] at hcopy
  have hb4 : Below Wd.heap.size Wd W4 := by rw [← hW4]; exact below_setRow hb3 (Nat.le_refl _) _
  have hx4 : W4.heap[Wd.heap.size]? = some (.cells css.flatten.toArray 9 (0, 0)) := by rw [← hW4]; exact setRow_heap W3 _ _ _ _ _ hx3
  have hm4 := hmd.below hb4
  have hz4 : Wd.heap.size < W4.heap.size := heap_lt hx4
  obtain ⟨i0, hi0, he0⟩ := Option.map_eq_some_iff.1 (show (Try.prog.info? 164).map (fun i => (i.zero.map (·.cells.size), i.size, i.bytes)) = some (some 2, 2, 32) by kernel_rfl)
  simp only [Prod.mk.injEq] at he0
  obtain ⟨z0, hzz, hzs⟩ := Option.map_eq_some_iff.1 he0.1
  have hr4 : Row W4 164 2 vN (N.map Ne.cells) := hm4.rN
  obtain ⟨ov, cv, ev, -⟩ := hr4.form
  rw [List.length_map] at ev
  obtain ⟨W5, hW5⟩ : ∃ W, W4.alloc (.cells #[.slice (some ⟨Wd.heap.size, 0, none⟩) ss.length ss.length, .bool false] 164) = W := ⟨_, rfl⟩
  have hb5 : Below W4.heap.size W4 W5 := by rw [← hW5]; exact (Below.refl _ W4).alloc (Nat.le_refl _) _
  have hx5 : W5.heap[W4.heap.size]? = some (.cells #[.slice (some ⟨Wd.heap.size, 0, none⟩) ss.length ss.length, .bool false] 164 (0, 0)) := by rw [← hW5]; exact heap_alloc_new W4 _
  have hm5 := hm4.below hb5
  obtain ⟨o', n', c', W6, happ, hrow6, hgr6, hbk6⟩ := Row.append Try.underlying75 hi0 hzz he0.2.1 he0.2.2 hzs (by decide) (by decide) (h := hm5.rN) (by rw [List.length_map]; omega) (a := W4.heap.size) (c := [.slice (some ⟨Wd.heap.size, 0, none⟩) ss.length ss.length, .bool false]) rfl (fun j u hu => by
    have h9 := cell_of hx5 j
    rw [List.getElem?_toArray, hu] at h9
    exact h9) (fun u hu => by
    simp only [List.mem_cons, List.not_mem_nil, or_false] at hu
    rcases hu with rfl | rfl <;> rfl) 75
  rw [ev] at happ
  have HAPP := hide happ
  have HM5 := hide hm5
  have HROW6 := hide hrow6
  have HGR6 := hide hgr6
  have HBK6 := hide hbk6
  have HEV := hide ev
  have hz5 := hb5.size
  have hCin : C ∈ blks C M vE vD vA vN E D A N X := by simp [blks]
  have hnd := hm5.apart.1
  have hCv : ∀ g, vN.ownBlock = some g → g ≠ C := fun g hg e => by
    have h9 : C ∈ ownL vN := by unfold ownL; rw [hg, e]; simp
    unfold blks at hnd
    exact (List.nodup_cons.1 hnd).1 (by simp [h9])
  have hC5 : W5.heap[C]? = some (.cells (ecv vE vD vA vN M) 85 (0, 0)) := hm5.box
  have hCl : C < W5.heap.size := heap_lt hC5
  have hC6 : W6.heap[C]? = some (.cells (ecv vE vD vA vN M) 85 (0, 0)) := (hgr6.block C hCl fun e => hCv C e.symm rfl).trans hC5
  have HC6 := hide hC6
  have HC4 := hide hm4.box
  have HB : Hid (Below w.heap.size w W5) := (HBD.out.trans (hb4.mono (by omega))).trans (hb5.mono (by omega))
  have HX4 := hide ((hb5.block _ hz4).trans hx4)
  have q0 := cell_of hm4.box 6
  have f6 := frozen_of hC6 6
  have r0 := cell_of hC6 6
  have r1 := cell_of hC6 7
  simp only [ecv, List.getElem?_toArray, List.getElem?_cons_succ, List.getElem?_cons_zero] at q0 r0 r1
  rw [ev] at q0 r0
  have hneq : ∀ w, (binOp BinOp.neq 76 (.map none) (.map none)).run Try.prog w = .ok (.bool false) w := fun w => by kernel_rfl
  have HNB : Hid (Wd.heap.size ∉ blks C M vE vD vA vN E D A N X) := hide fun hm => by
    have := (HHM.out.apart.2 _ hm).2
    have := HBD.out.size
    omega
  have HKB : Hid (Keeps (KX w0 X) w W5) := ⟨HB.out.os, HB.out.tape, HB.out.output, HB.out.size, fun b hb => HB.out.block b (by
    rcases hb with hb | hb
    · omega
    · exact (HHM.out.apart.2 b (by rw [blks_split]; exact List.mem_append_right _ hb)).2)⟩
  have HX6 : Hid (W6.heap[Wd.heap.size]? = some (.cells css.flatten.toArray 9 (0, 0))) := hide ((hgr6.block _ (by omega) fun e => by
    have h9 : Wd.heap.size ∈ ownL vN := by unfold ownL; rw [← e]; simp
    exact HNB.out (by simp [blks, h9])).trans HX4.out)
  have hgz : (0 : Int) ≤ (ss.length : Int) := by omega
  clear happ hmd hb3 hx3 hb4 hx4 hm4 hr4 hb5 hx5 hm5 hrow6 hgr6 hbk6 hnd hCv hC5 hC6 hsrc hmk hCin
  go_wp2_with (at_builtin; refine Lib.wpList_append_run _ rfl _ _ _ _ rfl _ _ rfl rfl _ _ HAPP.out ?_)
  go_ret
  have hpush := push_3 (p := (⟨Wd.heap.size, ss⟩ : Ne)) HM5.out HROW6.out HGR6.out HBK6.out (fun hm => HNB.out hm) (by show w0.heap.size ≤ Wd.heap.size; omega) (by show Wd.heap.size < _; omega) ⟨hne, hln, hsz, by have h9 := HX6.out; rw [css_str hcl HCR.out] at h9; exact h9⟩
  refine ⟨_, [(⟨Wd.heap.size, ss⟩ : Ne)], rfl, .inr ⟨hne, _, rfl, rfl⟩, ⟨_, _, _, _, hpush.1⟩, (HKB.out).trans hpush.2⟩
end Go.Proofs.Ytgeckgdmkjddpaa.Cp
