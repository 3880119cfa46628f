/- The model's closing at a line's beginning. -/
import Derived.Test.YtfcgfinohhhpiaiLE
namespace Go.Proofs.Ytfcgfinohhhpiai
open Go.RowKit

theorem SpecAt.box {w : World} {K : Nat → Prop} {g : Nat} {out : List TokZ} {st : List Int} {wait bad : Bool} (h : SpecAt w K g out st wait bad) (o : Obj) : SpecAt (w.alloc o) (fun k => K k ∨ k = w.heap.size) g out st wait bad := by
  obtain ⟨vo, vs, hg, hm⟩ := h
  have h2 := hm.alloc o
  have hgw := hm.gw
  refine ⟨vo, vs, (Below.heap_alloc w o g hm.gw).trans hg, h2.more (fun k hk => ?_) (fun hk => ?_) (fun k hk hK => ?_) (fun k hk hK => ?_)⟩
  · rcases hk with hk | rfl
    · exact h2.kw k hk
    · simp
  · rcases hk with hk | e
    · exact hm.kg hk
    · omega
  · rcases hK with hK | e
    · exact hm.ko k hk hK
    · have := (owns_lt hm.out k hk).1
      omega
  · rcases hK with hK | e
    · exact hm.ks k hk hK
    · have := (owns_lt hm.st k hk).1
      omega
theorem SpecAt.less {w : World} {K K' : Nat → Prop} {g : Nat} {out : List TokZ} {st : List Int} {wait bad : Bool} (h : SpecAt w K' g out st wait bad) (hk : ∀ k, K k → K' k) : SpecAt w K g out st wait bad := by
  obtain ⟨vo, vs, hg, hm⟩ := h
  exact ⟨vo, vs, hg, hm.more (fun k h => hm.kw k (hk k h)) (fun h => hm.kg (hk _ h)) (fun k h1 h2 => hm.ko k h1 (hk k h2)) (fun k h1 h2 => hm.ks k h1 (hk k h2))⟩
def stackLen (w : World) (g : Nat) : Nat := match w.cell? ⟨g, 1, none⟩ with | some (.slice _ n _) => n | _ => 0
theorem SpecAt.len {w : World} {K : Nat → Prop} {g : Nat} {out : List TokZ} {st : List Int} {wait bad : Bool} (h : SpecAt w K g out st wait bad) : stackLen w g = st.length := by
  obtain ⟨vo, vs, hg, hm⟩ := h
  have c1 := cell_of hg 1
  obtain ⟨o, cap, rfl⟩ := hm.none_top
  unfold stackLen
  rw [c1]
  rfl
theorem SpecAt.stack {w : World} {K : Nat → Prop} {g : Nat} {out : List TokZ} {st : List Int} {wait bad : Bool} (h : SpecAt w K g out st wait bad) : ∃ o cap, w.cell? ⟨g, 1, none⟩ = some (.slice o st.length cap) := by
  obtain ⟨vo, vs, hg, hm⟩ := h
  have c1 := cell_of hg 1
  obtain ⟨o, cap, rfl⟩ := hm.none_top
  exact ⟨o, cap, c1⟩
theorem keeps_drewN (K : Nat → Prop) (w : World) (n : Nat) : Keeps K w (w.drewN n) := ⟨rfl, rfl, rfl, Nat.le_refl _, fun _ _ => rfl⟩
theorem Keeps.drewN {K : Nat → Prop} {w w' : World} (h : Keeps K w w') (n : Nat) : Keeps K w (w'.drewN n) := h.trans (keeps_drewN K w' n)
def tokObj (t : TokZ) : Obj := .cells #[.int .i64 t.k, .string t.s, .int .i64 t.l, .int .i64 t.c] 70 (0, 0)
theorem tokObj_cells {w : World} {b : Nat} {t : TokZ} (h : w.heap[b]? = some (tokObj t)) : TokAt w b 0 t := ⟨cell_of h 0, cell_of h 1, cell_of h 2, cell_of h 3⟩

set_option maxHeartbeats 4000000 in
set_option maxRecDepth 100000 in
theorem l2Line_any {w : World} {K : Nat → Prop} {g : Nat} {out : List TokZ} {st : List Int} {wait bad : Bool} (t : TokZ) (h : SpecAt w K g out st wait bad) (hn : out.length + st.length ≤ 9000000) :
    Calls Try.prog 60 #[.pointer (some ⟨g, 0, none⟩), aggZ t] w fun e w' => e = .returned (.tuple #[]) ∧ SpecAt w' K g (lineZ st out t).2 (lineZ st out t).1 wait bad ∧ Keeps K w w' := by
  have hkw : ∀ k, K k → k < w.heap.size := by obtain ⟨vo, vs, hg, hm⟩ := h; exact hm.kw
  have HK0 := hide (keeps_alloc w (tokObj t) hkw)
  have HS0 := hide (h.box (tokObj t))
  have HX0 := hide (heap_alloc_new w (tokObj t))
  clear h hkw
  unfold aggZ
  go_enter Try.func60, Try.ntmps60
  go_wp2
  go_loopw [] (fun wr => ∃ (st' : List Int) (out' : List TokZ), closeA t.c st out = closeA t.c st' out' ∧ out'.length + st'.length ≤ 9000000 ∧ SpecAt wr (fun k => K k ∨ k = w.heap.size) g out' st' wait bad ∧ Keeps (fun k => K k ∨ k = w.heap.size) (w.alloc (tokObj t)) wr) (fun wr => stackLen wr g)
  case atStart => exact ⟨st, out, rfl, hn, HS0.out, Keeps.refl _ _⟩
  case round =>
    obtain ⟨st', out', hcl, hn', hS, hK⟩ := hrel
    have HCL := hide hcl
    have HS := hide hS
    have HK := hide hK
    obtain ⟨o1, cap1, c1⟩ := hS.stack
    have HX := hide ((hK.block w.heap.size (Or.inr rfl)).trans HX0.out)
    obtain ⟨x0, x1, x2, x3⟩ := tokObj_cells HX.out
    have HLEN := hide hS.len
    clear hcl hS hK
    cases st' with
    | nil =>
      simp only [List.length_nil] at c1
      have HL : Hid (lineZ st out t = ([], out')) := by
        show lineZ st out t = ([], out')
        unfold lineZ
        rw [HCL.out]
        rfl
      go_wp2
      go_quiet (fail)
      go_wp2
      go_quiet (fail)
      go_wp2
      go_end0
      refine ⟨rfl, ?_, ?_⟩
      · rw [HL.out]
        exact ((HS.out.drewN _).drewN _).less fun k hk => Or.inl hk
      · exact HK0.out.trans (((HK.out.drewN _).drewN _).mono fun k hk => Or.inl hk)
    | cons h r =>
      simp only [List.length_cons] at c1 hn'
      have hlp : (0 : Int) < (r.length : Int) + 1 := by omega
      by_cases hgt : t.c < h
      · have HC2 : Hid (closeA t.c st out = closeA t.c r (out' ++ [markZ sShut])) := by
          show closeA t.c st out = closeA t.c r (out' ++ [markZ sShut])
          rw [HCL.out]
          unfold closeA
          rw [if_pos hgt]
          cases r <;> rfl
        go_wp2
        go_quiet ((go_at_call 89; refine l2Top_quiet HS.out (by simp only [List.length_cons]; omega) _ h rfl))
        go_wp2_with fail
        refine (l2Pop_any (HS.out.drewN _) (by simp only [List.length_cons]; omega)).mono ?_
        rintro e w2 ⟨rfl, hs2, hk2⟩
        have HS2 := hide hs2
        have HK2 := hide ((HK.out.drewN _).trans hk2)
        clear hs2 hk2
        go_wp2_with fail
        refine (l2Put_any ⟨#[125]⟩ HS2.out (by omega)).mono ?_
        rintro e w3 ⟨rfl, hs3, hk3⟩
        have HS3 := hide hs3
        have HK3 := hide (HK2.out.trans hk3)
        clear hs3 hk3
        go_wp2
        refine ⟨⟨r, out' ++ [markZ sShut], HC2.out, by rw [List.length_append]; simp only [List.length_cons, List.length_nil]; omega, HS3.out, HK3.out⟩, ?_⟩
        rw [HS3.out.len, HLEN.out]
        exact Nat.lt_succ_self _
      · have HC2 : Hid (closeA t.c st out = (h :: r, out')) := by
          show closeA t.c st out = (h :: r, out')
          rw [HCL.out]
          unfold closeA
          rw [if_neg hgt]
        by_cases heq : h = t.c
        · have HL : Hid (lineZ st out t = (h :: r, out' ++ [markZ sSemi])) := by
            show lineZ st out t = (h :: r, out' ++ [markZ sSemi])
            unfold lineZ
            rw [HC2.out, heq]
            simp
          have hb : (h == t.c) = true := by simp [heq]
          clear heq
          go_wp2
          go_quiet ((go_at_call 89; refine l2Top_quiet HS.out (by simp only [List.length_cons]; omega) _ h rfl))
          have HSq := hide (HS.out.drewN nq)
          have HKq := hide (HK.out.drewN nq)
          have c1q : (wr.drewN nq).cell? ⟨g, 1, none⟩ = some (.slice o1 (r.length + 1) cap1) := c1
          have x3q : (wr.drewN nq).cell? ⟨w.heap.size, 0 + 3, none⟩ = some (.int .i64 t.c) := x3
          generalize wr.drewN nq = wq at HSq HKq c1q x3q ⊢
          go_wp2
          go_quiet ((go_at_call 89; refine l2Top_quiet HSq.out (by simp only [List.length_cons]; omega) _ h rfl))
          go_wp2_with fail
          refine (l2Put_any ⟨#[59]⟩ (HSq.out.drewN _) (by simp only [List.length_cons]; omega)).mono ?_
          rintro e w3 ⟨rfl, hs3, hk3⟩
          have HS3 := hide hs3
          have HK3 := hide ((HKq.out.drewN _).trans hk3)
          clear hs3 hk3
          go_wp2
          go_end0
          refine ⟨rfl, ?_, ?_⟩
          · rw [HL.out]
            exact HS3.out.less fun k hk => Or.inl hk
          · exact HK0.out.trans (HK3.out.mono fun k hk => Or.inl hk)
        · have HL : Hid (lineZ st out t = (h :: r, out')) := by
            show lineZ st out t = (h :: r, out')
            unfold lineZ
            rw [HC2.out]
            simp [heq]
          have hb : (h == t.c) = false := by simp [heq]
          clear heq
          go_wp2
          go_quiet ((go_at_call 89; refine l2Top_quiet HS.out (by simp only [List.length_cons]; omega) _ h rfl))
          have HSq := hide (HS.out.drewN nq)
          have HKq := hide (HK.out.drewN nq)
          have c1q : (wr.drewN nq).cell? ⟨g, 1, none⟩ = some (.slice o1 (r.length + 1) cap1) := c1
          have x3q : (wr.drewN nq).cell? ⟨w.heap.size, 0 + 3, none⟩ = some (.int .i64 t.c) := x3
          generalize wr.drewN nq = wq at HSq HKq c1q x3q ⊢
          go_wp2
          go_quiet ((go_at_call 89; refine l2Top_quiet HSq.out (by simp only [List.length_cons]; omega) _ h rfl))
          go_wp2
          go_end0
          refine ⟨rfl, ?_, ?_⟩
          · rw [HL.out]
            exact (HSq.out.drewN _).less fun k hk => Or.inl hk
          · exact HK0.out.trans ((HKq.out.drewN _).mono fun k hk => Or.inl hk)
end Go.Proofs.Ytfcgfinohhhpiai
