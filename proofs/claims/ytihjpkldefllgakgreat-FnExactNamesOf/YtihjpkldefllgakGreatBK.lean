/- The program's spreadExp. -/
import Derived.Test.YtihjpkldefllgakGreatBIa
namespace Go.Proofs.YtihjpkldefllgakGreat.Nm
open Go.ChangeShapes Go.WideShapes Go.ChangeAt Go.RowKit

def kidsE (o1 o2 o3 : Option Addr) (n1 n2 n3 : Nat) : List (Bool × Addr) := ((rowA o1 6 0 n1).map fun a => (true, a)) ++ ((rowA o2 9 0 n2).map fun a => (false, a)) ++ ((rowA o3 8 2 n3).map fun a => (true, a))
def BoxA (W : World) (b : Nat) (f : Nat) : Prop := ∃ o n c, W.heap[b]? = some (.cells #[.int .i64 f, .slice o n c] 135 (0, 0))
theorem BoxA.keep {W W' : World} {b f : Nat} (h : BoxA W b f) (hb : W'.heap[b]? = W.heap[b]?) : BoxA W' b f := by
  obtain ⟨o, n, c, h⟩ := h
  exact ⟨o, n, c, hb.trans h⟩
theorem row_len (o : Option Addr) (sz d n : Nat) : (rowA o sz d n).length = n := by simp [rowA]
set_option maxHeartbeats 4000000 in
set_option maxRecDepth 100000 in
theorem spreadExp_any {K KP KS : Nat → Prop} {w : World} {n : Nat} {ks : List (Bool × Addr)} {L h : Nat} (hN : Net KP KS w n ks L) (x : Tr) (cs : List Value) (a : Addr) (ha : a.spot = none) (hca : CellsA w a cs) (hr : (reads K w (h + 1)).ex x cs) (hab : K a.block) (hK : ∀ b, K b → KP b) (f : Nat)
    (hb1 : x.l.length + x.ds.length + x.al.length ≤ 10000000) (hal : ∀ y ∈ x.al, y.ss.length ≤ 10000000) (hL : L ≤ 20000000) (hk : ks.length ≤ 20000000) :
    ∃ o1 o2 o3, (∃ c1, cs[3]? = some (.slice o1 x.l.length c1)) ∧ (∃ c2, cs[4]? = some (.slice o2 x.ds.length c2)) ∧ (∃ c3, cs[5]? = some (.slice o3 x.al.length c3)) ∧ Calls Tryz.prog 55 #[.pointer (some ⟨n, 0, none⟩), .int .i64 (f : Int), .pointer (some a)] w fun e w' => ∃ new, e = .returned (.tuple #[]) ∧ Net KP KS w' n (ks ++ new) (L + x.l.length + x.ds.length + x.al.length) ∧ new.Sublist (kidsE o1 o2 o3 x.l.length x.ds.length x.al.length) ∧ (∀ k ∈ kidsE o1 o2 o3 x.l.length x.ds.length x.al.length, k ∈ ks ++ new) ∧ Keeps KS w w' := by
  obtain ⟨ab, ao, asp⟩ := a
  simp only at ha
  subst ha
  obtain ⟨x0, o1, c1, o2, c2, o3, c3, rfl, hsz, f1, f2, f3, r1, r2, r3⟩ := hr
  refine ⟨o1, o2, o3, ⟨c1, rfl⟩, ⟨c2, rfl⟩, ⟨c3, rfl⟩, ?_⟩
  have q0 : w.cell? ⟨ab, ao, none⟩ = some (.int .i64 x.k) := hca 0 _ rfl
  have q1 : w.cell? ⟨ab, ao + 1, none⟩ = some (.string x.s) := hca 1 _ rfl
  have q3 : w.cell? ⟨ab, ao + 3, none⟩ = some (.slice o1 x.l.length c1) := hca 3 _ rfl
  have q4 : w.cell? ⟨ab, ao + 4, none⟩ = some (.slice o2 x.ds.length c2) := hca 4 _ rfl
  have q5 : w.cell? ⟨ab, ao + 5, none⟩ = some (.slice o3 x.al.length c3) := hca 5 _ rfl
  have hal2 : ab < w.heap.size := World.block_lt_of_cell? w _ q0
  have HLAT : Hid (∀ W, Stays K w W → RowOf K W (reads K W h).ex 6 o1 x.l ∧ RowOf K W (reads K W h).de 9 o2 x.ds ∧ RowOf K W (reads K W h).al 8 o3 x.al) := fun W hW =>
    ⟨r1.frame hW (fun _ h => h) fun _ _ hh => (reads_frame hW (fun _ h => h) h).1 _ _ hh, r2.frame hW (fun _ h => h) fun _ _ hh => (reads_frame hW (fun _ h => h) h).2.1 _ _ hh, r3.frame hW (fun _ h => h) fun _ _ hh => (reads_frame hW (fun _ h => h) h).2.2 _ _ hh⟩
  have HC : Hid (∀ (W : World), W.heap[ab]? = w.heap[ab]? → W.cell? ⟨ab, ao, none⟩ = some (.int .i64 x.k) ∧ W.cell? ⟨ab, ao + 1, none⟩ = some (.string x.s) ∧ W.cell? ⟨ab, ao + 3, none⟩ = some (.slice o1 x.l.length c1) ∧ W.cell? ⟨ab, ao + 4, none⟩ = some (.slice o2 x.ds.length c2) ∧ W.cell? ⟨ab, ao + 5, none⟩ = some (.slice o3 x.al.length c3)) := fun W hW =>
    ⟨(World.cell?_of_block (a := ⟨ab, _, none⟩) hW).trans q0, (World.cell?_of_block (a := ⟨ab, _, none⟩) hW).trans q1, (World.cell?_of_block (a := ⟨ab, _, none⟩) hW).trans q3, (World.cell?_of_block (a := ⟨ab, _, none⟩) hW).trans q4, (World.cell?_of_block (a := ⟨ab, _, none⟩) hW).trans q5⟩
  have HSZ := hide hsz
  have HN := hide hN
  have HKS : Hid (∀ b, KS b → b < w.heap.size) := by obtain ⟨_, _, _, _, _, _, h9⟩ := hN; exact h9.kslt
  have HKP : Hid (∀ b, KP b → KS b) := by obtain ⟨_, _, _, _, _, _, h9⟩ := hN; exact fun b hb => (h9.plain b hb).1
  have HKK := hide hK
  have HAB : Hid (KS ab) := HKP.out ab (hK ab hab)
  have HAL := hide hal
  obtain ⟨V, HV⟩ : ∃ V, Hid ((w.alloc (.cells #[.int .i64 f, .slice none 0 0] 135)).alloc (.cells #[.int .i64 f, .slice none 0 0] 135) = V) := ⟨_, rfl⟩
  have HBV : Hid (Below w.heap.size w V) := by rw [← HV.out]; exact ((Below.refl _ w).alloc (Nat.le_refl _) _).alloc (by simp) _
  have hsV : V.heap.size = w.heap.size + 2 := by rw [← HV.out]; simp
  have HX0 : Hid (V.heap[w.heap.size]? = some (.cells #[.int .i64 f, .slice none 0 0] 135 (0, 0))) := by rw [← HV.out]; exact (heap_alloc_old _ _ (by simp)).trans (heap_alloc_new w _)
  have HX1 : Hid (V.heap[w.heap.size + 1]? = some (.cells #[.int .i64 f, .slice none 0 0] 135 (0, 0))) := by rw [← HV.out]; exact heap_alloc2_new w _ _
  clear hab hN hca hsz f1 f2 f3 r1 r2 r3 hK hal
  go_enter Tryz.func55, Tryz.ntmps55
  go_upto_block 0 with fail
  go_cut [] (fun W => BoxA W w.heap.size f ∧ BoxA W (w.heap.size + 1) f ∧ Below w.heap.size w W)
  case first =>
    rw [HV.out]
    obtain ⟨v0, v1, -, v4, -⟩ := HC.out V (HBV.out.block ab hal2)
    have y0 := cell_of HX0.out 0
    have y1 := cell_of HX0.out 1
    have y2 := cell_of HX1.out 0
    have y3 := cell_of HX1.out 1
    have g0 := frozen_of HX0.out 0
    have g1 := frozen_of HX0.out 1
    have g2 := frozen_of HX1.out 0
    have g3 := frozen_of HX1.out 1
    simp only [List.getElem?_toArray, List.getElem?_cons_succ, List.getElem?_cons_zero] at y0 y1 y2 y3
    by_cases h5 : x.k = 5
    · have hk5 : (x.k == 5) = true := by simpa using h5
      clear h5
      go_wp2
      go_meet
      case rel =>
        have hset := heap_set_same (j := 1) (.slice (some ⟨w.heap.size + 2, 0, none⟩) 1 1) HX0.out
        have hset1 : (V.setCell ⟨w.heap.size, 1, none⟩ (.slice (some ⟨w.heap.size + 2, 0, none⟩) 1 1)).heap[w.heap.size + 1]? = _ := (heap_set_other _ (by omega)).trans HX1.out
        refine ⟨⟨some ⟨w.heap.size + 2, 0, none⟩, 1, 1, ?_⟩, ⟨none, 0, 0, ?_⟩, ?_⟩
        · refine (heap_alloc_old _ _ (by simp; omega)).trans ?_
          simpa using hset
        · refine (heap_alloc_old _ _ (by simp; omega)).trans ?_
          exact hset1
        · exact (HBV.out.setCell (Nat.le_refl _) _).alloc (by simp; omega) _
    · have hk5 : (x.k == 5) = false := by simpa using h5
      clear h5
      by_cases h6 : x.k = 6
      · have hk6 : (x.k == 6) = true := by simpa using h6
        clear h6
        go_wp2_with fail
        refine (namesOfDecs_any x.ds o2 c2 V (HLAT.out V (Stays.of HBV.out)).2.1 (by omega)).mono ?_
        rintro ee w1 ⟨v, l, rfl, hn1, hl1, hb1⟩
        obtain ⟨oN, cN, rfl, -, hrN⟩ := hn1.rowOf
        rw [hl1]
        have hbb : Below w1.heap.size w1 (w1.alloc (.cells #[.slice oN x.ds.length cN] 27)) := (Below.refl _ w1).alloc (Nat.le_refl _) _
        have HS := hide (sorted1_any (W := w1.alloc (.cells #[.slice oN x.ds.length cN] 27)) (b := w1.heap.size) (l1 := l) (by rw [hl1]; exact heap_alloc_new w1 _) (by omega) (hrN.frame (Stays.of hbb) (fun _ _ => trivial) (fun _ _ h => h)))
        have HB1 := hide (HBV.out.trans (hb1.mono HBV.out.size))
        have hz1 := hb1.size
        have HY0 := hide ((hb1.block w.heap.size (by omega)).trans HX0.out)
        have HY1 := hide ((hb1.block (w.heap.size + 1) (by omega)).trans HX1.out)
        have HBB := hide hbb
        clear hn1 hb1 hrN hbb y0 y1 y2 y3 g0 g1 g2 g3 v0 v1 v4
        go_wp2_with fail
        refine Calls.mono HS.out ?_
        rintro ee w2 ⟨o', n', c', rfl, hb2⟩
        have HB2 : Hid (Below w.heap.size w w2) := HB1.out.trans ((HBB.out.trans (hb2.mono HBB.out.size)).mono HB1.out.size)
        have hz2 := HBB.out.size
        have HZ0 := hide ((hb2.block w.heap.size (by omega)).trans ((HBB.out.block w.heap.size (by omega)).trans HY0.out))
        have HZ1 := hide ((hb2.block (w.heap.size + 1) (by omega)).trans ((HBB.out.block (w.heap.size + 1) (by omega)).trans HY1.out))
        clear hb2
        have hset := heap_set_same (j := 1) (.slice o' n' c') HZ0.out
        have hset1 := (heap_set_other (j := 1) (.slice o' n' c') (show w.heap.size + 1 ≠ w.heap.size by omega)).trans HZ1.out
        have hset2 := heap_set_same (j := 1) (.slice o' n' c') hset1
        have hset3 := (heap_set_other (j := 1) (.slice o' n' c') (show w.heap.size ≠ w.heap.size + 1 by omega)).trans hset
        have H3 : Hid (BoxA ((w2.setCell ⟨w.heap.size, 1, none⟩ (.slice o' n' c')).setCell ⟨w.heap.size + 1, 1, none⟩ (.slice o' n' c')) w.heap.size f ∧ BoxA ((w2.setCell ⟨w.heap.size, 1, none⟩ (.slice o' n' c')).setCell ⟨w.heap.size + 1, 1, none⟩ (.slice o' n' c')) (w.heap.size + 1) f ∧ Below w.heap.size w ((w2.setCell ⟨w.heap.size, 1, none⟩ (.slice o' n' c')).setCell ⟨w.heap.size + 1, 1, none⟩ (.slice o' n' c'))) := by
          refine ⟨⟨o', n', c', ?_⟩, ⟨o', n', c', ?_⟩, (HB2.out.setCell (Nat.le_refl _) _).setCell (show w.heap.size ≤ w.heap.size + 1 by omega) _⟩
          · simpa using hset3
          · simpa using hset2
        have y1 := cell_of HZ0.out 1
        have y3 := cell_of HZ1.out 1
        have g1 := frozen_of HZ0.out 1
        have g3 := frozen_of HZ1.out 1
        simp only [List.getElem?_toArray, List.getElem?_cons_succ, List.getElem?_cons_zero] at y1 y3
        clear hset hset1 hset2 hset3
        go_wp2
        go_meet
        case rel => exact H3.out
      · have hk6 : (x.k == 6) = false := by simpa using h6
        clear h6
        go_wp2
        go_meet
        case rel => exact ⟨⟨_, _, _, HX0.out⟩, ⟨_, _, _, HX1.out⟩, HBV.out⟩
  case rest =>
    obtain ⟨hx0, hx1, hb⟩ := hcut
    generalize wc = W1 at hx0 hx1 hb ⊢
    have hz := hb.size
    have hlt1 : w.heap.size + 1 < W1.heap.size := by
      obtain ⟨_, _, _, h9⟩ := hx1
      exact heap_lt h9
    have HM := hide (HN.out.more hb)
    have HB := hide hb
    have HX := hide hx0
    have HY := hide hx1
    have HKW : Hid (Keeps KS w W1) := keeps_of hb HKS.out
    obtain ⟨-, -, v3, -, -⟩ := HC.out W1 (hb.block ab hal2)
    obtain ⟨KS2, HK2⟩ : ∃ KS2 : Nat → Prop, Hid ((fun k => KS k ∨ (w.heap.size ≤ k ∧ k < W1.heap.size)) = KS2) := ⟨_, rfl⟩
    rw [HK2.out] at HM
    have HKL : Hid (∀ b, KS2 b → KS b ∨ (w.heap.size ≤ b ∧ b < W1.heap.size)) := by rw [← HK2.out]; exact fun b hb => hb
    have HKI : Hid (∀ b, KS b → KS2 b) := by rw [← HK2.out]; exact fun b hb => .inl hb
    have HKO : Hid (KS2 w.heap.size ∧ KS2 (w.heap.size + 1)) := by rw [← HK2.out]; exact ⟨.inr ⟨Nat.le_refl _, by omega⟩, .inr ⟨by omega, hlt1⟩⟩
    have HCB : Hid (∀ W, Keeps KS2 W1 W → W.heap[ab]? = w.heap[ab]? ∧ Stays K w W ∧ BoxA W w.heap.size f ∧ BoxA W (w.heap.size + 1) f) := fun W hW =>
      ⟨(hW.block ab (HKI.out ab HAB.out)).trans (HB.out.block ab hal2), ⟨Nat.le_trans HB.out.size hW.size, fun b hb hl => (hW.block b (HKI.out b (HKP.out b (HKK.out b hb)))).trans (HB.out.block b hl)⟩, HX.out.keep (hW.block _ HKO.out.1), HY.out.keep (hW.block _ HKO.out.2)⟩
    clear hx0 hx1 hb q0 q1 q3 q4 q5 HX0 HX1 HBV HV hsV
    have ml1 : x.l.length ≤ 9223372036854775807 := by omega
    go_wp2
    clear v3
    go_loopw [44] (fun t44 wr => ∃ (i : Nat) (new : List (Bool × Addr)), i ≤ x.l.length ∧ t44 = .int .i64 i ∧ Net KP KS2 wr n (ks ++ new) (L + i) ∧ new.Sublist ((rowA o1 6 0 i).map fun a => (true, a)) ∧ (∀ a ∈ rowA o1 6 0 i, (true, a) ∈ ks ++ new) ∧ Keeps KS2 W1 wr) (fun t44 _ => x.l.length - (intOf t44).toNat)
    case atStart => exact ⟨0, [], Nat.zero_le _, rfl, by rw [List.append_nil]; exact HM.out, by simp, fun a ha => by simp [rowA] at ha, Keeps.refl _ _⟩
    case round =>
      obtain ⟨i, new, hi, rfl, hN, hsub, hmem, hkp⟩ := hrel
      have HNR := hide hN
      have HSUB := hide hsub
      have HMEM := hide hmem
      have HKR := hide hkp
      have hnl : new.length ≤ i := by
        have := hsub.length_le
        rw [List.length_map, row_len] at this
        exact this
      obtain ⟨hblk, hst, ⟨ob, nb, cb, hbx⟩, ⟨ob2, nb2, cb2, hby⟩⟩ := HCB.out wr hkp
      obtain ⟨-, -, v3, v4, v5⟩ := HC.out wr hblk
      have b0 := cell_of hbx 0
      have b1 := cell_of hbx 1
      have d0 := cell_of hby 0
      have d1 := cell_of hby 1
      simp only [List.getElem?_toArray, List.getElem?_cons_succ, List.getElem?_cons_zero] at b0 b1 d0 d1
      by_cases hlt : i < x.l.length
      · have hne : x.l ≠ [] := by intro e; rw [e] at hlt; simp at hlt
        obtain ⟨b, off, eo, kb, -, -⟩ := (HLAT.out wr hst).1 hne
        subst eo
        have HL1 := hide (leadToExp_any (hN.later (Below.refl _ wr).drew) (by omega) (by rw [List.length_append]; omega) ⟨b, off + i * 6, none⟩ (HKK.out b kb) f ob nb cb)
        clear hN hsub hmem hkp hblk hst hbx hby hne d0 d1 v4 v5
        go_upto_region 10 with fail
        go_region_with (go_at_call 70; (with_reducible refine Calls.mono HL1.out ?_); rintro e w1 ⟨nw, rfl, hN1, hnew, hidx, hkp⟩; have HN1 := hide hN1; have HNEW := hide hnew; have HIDX := hide hidx; have HKP1 := hide hkp; clear hN1 hnew hidx hkp)
        all_goals
          go_wp2
          go_roundw
          case rel =>
            refine ⟨i + 1, new ++ nw, by omega, by go_num, ?_, ?_, fun a ha => ?_, (HKR.out.trans (keeps_drw _ wr)).trans HKP1.out⟩
            · have h9 := HN1.out
              rw [List.append_assoc] at h9
              exact h9
            · rw [rowA_succ, List.map_append]
              refine HSUB.out.append ?_
              rcases HNEW.out with h9 | h9
              · rw [h9]; exact List.nil_sublist _
              · rw [h9]; exact List.Sublist.refl _
            · rw [rowA_succ] at ha
              rw [← List.append_assoc]
              rcases List.mem_append.1 ha with ha | ha
              · exact List.mem_append_left _ (HMEM.out a ha)
              · rw [List.mem_singleton] at ha
                rw [ha]
                exact HIDX.out
          case measure => simp [intOf]; omega
      · have hie : i = x.l.length := by omega
        subst hie
        have HLD := hide (leadToDecs_any (hN.later (Below.refl _ wr).drew) x.ds o2 c2 ((HLAT.out wr.drew ⟨hst.size, hst.block⟩).2.1) (by omega) (by rw [List.length_append]; omega) HKK.out f ob2 nb2 cb2)
        clear hN hsub hmem hkp hblk hst hbx hby b0 b1 v5
        go_upto_region 12 with fail
        go_cut [] (fun W => ∃ new2, Net KP KS2 W n (ks ++ new ++ new2) (L + x.l.length + x.ds.length) ∧ new2.Sublist ((rowA o2 9 0 x.ds.length).map fun a => (false, a)) ∧ (∀ a ∈ rowA o2 9 0 x.ds.length, (false, a) ∈ ks ++ new ++ new2) ∧ Keeps KS2 W1 W)
        case first =>
          go_region_with (go_at_call 71; (with_reducible refine Calls.mono HLD.out ?_); rintro e w1 ⟨nw, rfl, hN1, hnew, hidx, hkp⟩; have HN1 := hide hN1; have HNEW := hide hnew; have HIDX := hide hidx; have HKP1 := hide hkp; clear hN1 hnew hidx hkp)
          all_goals
            go_wp2_with fail
            go_meet
            case rel => exact ⟨nw, HN1.out, HNEW.out, HIDX.out, (HKR.out.trans (keeps_drw _ wr)).trans HKP1.out⟩
        case rest =>
          obtain ⟨new2, hN2, hsub2, hmem2, hkp2⟩ := hcut
          generalize wc = W2 at hN2 hkp2 ⊢
          have HN2 := hide hN2
          have HSUB2 := hide hsub2
          have HMEM2 := hide hmem2
          have HKR2 := hide hkp2
          have hnl2 : new2.length ≤ x.ds.length := by
            have := hsub2.length_le
            rw [List.length_map, row_len] at this
            exact this
          obtain ⟨hblk, -, -, -⟩ := HCB.out W2 hkp2
          obtain ⟨-, -, -, -, v5⟩ := HC.out W2 hblk
          have ml3 : x.al.length ≤ 9223372036854775807 := by omega
          clear hN2 hsub2 hmem2 hkp2 hblk v3 v4 d0 d1
          go_wp2
          clear v5
          generalize wr = wa at *
          go_loopw [69] (fun t69 wr => ∃ (i : Nat) (new3 : List (Bool × Addr)), i ≤ x.al.length ∧ t69 = .int .i64 i ∧ Net KP KS2 wr n (ks ++ new ++ new2 ++ new3) (L + x.l.length + x.ds.length + i) ∧ new3.Sublist ((rowA o3 8 2 i).map fun a => (true, a)) ∧ (∀ a ∈ rowA o3 8 2 i, (true, a) ∈ ks ++ new ++ new2 ++ new3) ∧ Keeps KS2 W1 wr) (fun t69 _ => x.al.length - (intOf t69).toNat)
          case atStart => exact ⟨0, [], Nat.zero_le _, rfl, by rw [List.append_nil]; exact HN2.out, by simp, fun a ha => by simp [rowA] at ha, HKR2.out⟩
          case round =>
            obtain ⟨i, new3, hi3, rfl, hN, hsub, hmem, hkp⟩ := hrel
            have HNR3 := hide hN
            have HSUB3 := hide hsub
            have HMEM3 := hide hmem
            have HKR3 := hide hkp
            have hnl3 : new3.length ≤ i := by
              have := hsub.length_le
              rw [List.length_map, row_len] at this
              exact this
            by_cases hlt : i < x.al.length
            · have hne : x.al ≠ [] := by intro e; rw [e] at hlt; simp at hlt
              obtain ⟨hblk, hst, -, -⟩ := HCB.out wr hkp
              obtain ⟨b, off, eo, kb, hbl, hcs⟩ := (HLAT.out wr hst).2.2 hne
              subst eo
              obtain ⟨ccs, hcl, hkey, hrr⟩ := hcs i _ (List.getElem?_eq_getElem hlt)
              have hyl := HAL.out x.al[i] (List.getElem_mem hlt)
              generalize x.al[i] = y at hrr hyl
              cases h with
              | zero => exact hrr.elim
              | succ h =>
                obtain ⟨-, -, -, -, e, p1, g1, ce, e0, e1, e2, e3, s1, e5, s2⟩ := hrr
                subst e1
                have z1 := hkey 1 _ rfl
                obtain ⟨-, -, -, -, v5⟩ := HC.out wr hblk
                have hbb : Below wr.heap.size wr (wr.alloc (.cells #[.slice p1 y.ss.length g1] 27)) := (Below.refl _ wr).alloc (Nat.le_refl _) _
                have z1b := (hbb.cell (p := ⟨b, off + i * 8 + 1, none⟩) hbl).trans z1
                have hablt : ab < wr.heap.size := World.block_lt_of_cell? wr _ v5
                have v5b := (hbb.cell (p := ⟨ab, ao + 5, none⟩) hablt).trans v5
                have HS := hide (sorted1_any (W := (wr.alloc (.cells #[.slice p1 y.ss.length g1] 27)).drew) (b := wr.heap.size) (l1 := y.ss) (heap_alloc_new wr _) (by omega) (s1.frame (w' := (wr.alloc (.cells #[.slice p1 y.ss.length g1] 27)).drew) (Stays.of hbb.drew) (fun _ _ => trivial) (fun _ _ h => h)))
                have HKBL : Hid (KP b) := HKK.out b kb
                have HBB := hide hbb
                have HKLT : Hid (∀ b, KS2 b → b < wr.heap.size) := by obtain ⟨_, _, _, _, _, _, h9⟩ := hN; exact h9.kslt
                clear hN hsub hmem hkp hblk hst hcs hcl hkey hne e2 e3 s1 s2 e5 kb hbb
                go_upto_region 16 with fail
                go_region_with (first
                  | (go_at_call 68; (with_reducible refine Calls.mono HS.out ?_); rintro ee w2 ⟨o', n', c', rfl, hb2⟩; have HB2 : Hid (Below wr.heap.size wr w2) := HBB.out.drew.trans (hb2.mono HBB.out.size); have z2 := (HB2.out.cell (p := ⟨b, off + i * 8 + 1, none⟩) hbl).trans z1; have v6 := (HB2.out.cell (p := ⟨ab, ao + 5, none⟩) hablt).trans v5; have HL1 := hide (leadToExp_any (HNR3.out.later HB2.out) (by omega) (by simp only [List.length_append]; omega) ⟨b, off + i * 8 + 2, none⟩ HKBL.out f o' n' c'); clear hb2)
                  | (go_at_call 70; (with_reducible refine Calls.mono HL1.out ?_); rintro e w3 ⟨nw, rfl, hN1, hnew, hidx, hkp⟩; have HN1 := hide hN1; have HNEW := hide hnew; have HIDX := hide hidx; have HKP1 := hide hkp; clear hN1 hnew hidx hkp))
                all_goals
                  go_wp2
                  go_roundw
                  case rel =>
                    refine ⟨i + 1, new3 ++ nw, by omega, by go_num, ?_, ?_, fun a ha => ?_, (HKR3.out.trans (keeps_of HB2.out HKLT.out)).trans HKP1.out⟩
                    · have h9 := HN1.out
                      rw [List.append_assoc] at h9
                      exact h9
                    · rw [rowA_succ, List.map_append]
                      refine HSUB3.out.append ?_
                      rcases HNEW.out with h9 | h9
                      · rw [h9]; exact List.nil_sublist _
                      · rw [h9]; exact List.Sublist.refl _
                    · rw [rowA_succ] at ha
                      rw [← List.append_assoc]
                      rcases List.mem_append.1 ha with ha | ha
                      · exact List.mem_append_left _ (HMEM3.out a ha)
                      · rw [List.mem_singleton] at ha
                        rw [ha]
                        exact HIDX.out
                  case measure => simp [intOf]; omega
            · have hie : i = x.al.length := by omega
              subst hie
              clear hN hsub hmem hkp
              go_wp2
              go_end0
              refine ⟨new ++ new2 ++ new3, rfl, ?_, ?_, fun k hk => ?_, HKW.out.trans (HKR3.out.mono HKI.out)⟩
              · have h9 := HNR3.out.less HKI.out HKP.out
                rw [List.append_assoc, List.append_assoc] at h9
                rw [List.append_assoc]
                exact h9
              · exact (HSUB.out.append HSUB2.out).append HSUB3.out
              · rw [← List.append_assoc, ← List.append_assoc]
                rcases List.mem_append.1 hk with hk | hk
                · rcases List.mem_append.1 hk with hk | hk
                  · obtain ⟨b, hb, rfl⟩ := List.mem_map.1 hk
                    exact List.mem_append_left _ (List.mem_append_left _ (HMEM.out b hb))
                  · obtain ⟨b, hb, rfl⟩ := List.mem_map.1 hk
                    exact List.mem_append_left _ (HMEM2.out b hb)
                · obtain ⟨b, hb, rfl⟩ := List.mem_map.1 hk
                  exact HMEM3.out b hb
end Go.Proofs.YtihjpkldefllgakGreat.Nm
