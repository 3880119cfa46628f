/- The program's note. -/
import Derived.Test.YtegcebeaelpjhajND
namespace Go.Proofs.Ytegcebeaelpjhaj
open Go.ChangeShapes Go.WideShapes Go.ChangeAt Go.RowKit

set_option maxHeartbeats 1000000 in
set_option maxRecDepth 100000 in
theorem note_any (w : World) (KP : Nat → Prop) (s1 s2 m1 m2 : Nat) (S1 S2 E D : List (Addr × Nat)) (h1 : PMap w s1 S1) (h2 : PMap w s2 S2) (h3 : PMap w m1 E) (h4 : PMap w m2 D) (hd : s1 ≠ s2 ∧ s1 ≠ m1 ∧ s1 ≠ m2 ∧ s2 ≠ m1 ∧ s2 ≠ m2) (hp : ∀ b, KP b → PlainAt w ⟨b, 0, none⟩) (hkm : ¬ KP s1 ∧ ¬ KP s2)
    (hk : (∀ a ∈ keysOf S1, KP a.block) ∧ (∀ a ∈ keysOf S2, KP a.block) ∧ (∀ a ∈ keysOf E, KP a.block) ∧ (∀ a ∈ keysOf D, KP a.block)) :
    Calls Try.prog 43 #[.agg #[.map (some s1), .map (some s2)], .agg #[.map (some m1), .map (some m2)]] w fun e w' => e = .returned (.tuple #[]) ∧ ∃ S1' S2', PMap w' s1 S1' ∧ PMap w' s2 S2' ∧ (∀ x, x ∈ keysOf S1' ↔ x ∈ keysOf S1 ∨ x ∈ keysOf E) ∧ (∀ x, x ∈ keysOf S2' ↔ x ∈ keysOf S2 ∨ x ∈ keysOf D) ∧ Keeps (fun k => k < w.heap.size ∧ k ≠ s1 ∧ k ≠ s2) w w' := by
  obtain ⟨d1, d2, d3, d4, d5⟩ := hd
  have l1 := h1.lt
  have l2 := h2.lt
  have l3 := h3.lt
  have l4 := h4.lt
  generalize hV : (w.alloc (.cells #[.map (some s1), .map (some s2)] 97)).alloc (.cells #[.map (some m1), .map (some m2)] 97) = V
  have hbV : Below w.heap.size w V := by rw [← hV]; exact ((Below.refl _ w).alloc (Nat.le_refl _) _).alloc (by simp) _
  have hsV : V.heap.size = w.heap.size + 2 := by rw [← hV]; simp
  have ha : V.heap[w.heap.size]? = some (.cells #[.map (some s1), .map (some s2)] 97 (0, 0)) := by rw [← hV]; exact (Below.heap_alloc _ _ _ (by simp)).trans (heap_alloc_new w _)
  have hb : V.heap[w.heap.size + 1]? = some (.cells #[.map (some m1), .map (some m2)] 97 (0, 0)) := by rw [← hV]; exact heap_alloc2_new w _ _
  have HP : Hid (∀ b, KP b → b < w.heap.size ∧ PlainAt V ⟨b, 0, none⟩) := fun b hb => by
    obtain ⟨c, e, h⟩ := hp b hb
    exact ⟨heap_lt h, c, e, (hbV.block b (heap_lt h)).trans h⟩
  obtain ⟨V1, rest0, hrange, hgo, hb1, hs1⟩ := (h3.keep (hbV.block m1 l3)).range Try.underlying94
  rw [hsV] at hrange hgo hs1
  have HGO := hide hgo
  have HB1 := hide hb1
  have HBV := hide hbV
  have HA := hide ((hb1.block w.heap.size (by omega)).trans ha)
  have HB := hide ((hb1.block (w.heap.size + 1) (by omega)).trans hb)
  have HS1 := hide ((h1.keep (hbV.block s1 l1)).keep (hb1.block s1 (by omega)))
  have HS2 := hide ((h2.keep (hbV.block s2 l2)).keep (hb1.block s2 (by omega)))
  have HM2 := hide ((h4.keep (hbV.block m2 l4)).keep (hb1.block m2 (by omega)))
  have HKM := hide hkm
  have HK := hide hk
  have x0 := cell_of hb 0
  simp only [List.getElem?_toArray, List.getElem?_cons_zero] at x0
  clear h1 h2 h3 h4 hp hkm hk hbV ha hb hgo hb1
  go_enter Try.func43, Try.ntmps43
  go_wp2
  clear x0 hrange
  go_loopw [] (fun wr => ∃ done rest S', Goes wr (w.heap.size + 2) m1 E done rest ∧ PMap wr s1 S' ∧ (∀ x, x ∈ keysOf S' ↔ x ∈ keysOf S1 ∨ x ∈ keysOf done) ∧ Keeps (fun k => k < V1.heap.size ∧ k ≠ s1 ∧ k ≠ (w.heap.size + 2)) V1 wr) (fun wr => restLen wr (w.heap.size + 2) m1)
  case atStart => exact ⟨[], rest0, S1, HGO.out, HS1.out, fun x => by simp [keysOf], Keeps.refl _ _⟩
  case round =>
    obtain ⟨done, rest, S', hgo, hs, hks, hkp⟩ := hrel
    have HKS := hide hks
    have HKP := hide hkp
    have hleft := hgo.left
    have hplain : ∀ a : Addr, KP a.block → ∃ c e, wr.heap[a.block]? = some (.cells c e (0, 0)) := fun a ha => by
      obtain ⟨h1, c, e, h2⟩ := HP.out a.block ha
      exact ⟨c, e, (hkp.block a.block ⟨by omega, fun e => HKM.out.1 (e ▸ ha), by omega⟩).trans ((HB1.out.block a.block (by omega)).trans h2)⟩
    rcases hgo.next (P := Try.prog) with ⟨hr0, hnx⟩ | ⟨p, rest', w1, hper, hnx, hgo1, hbu, hsz, hen⟩
    · subst hr0
      have hEk : ∀ x, x ∈ keysOf S' ↔ x ∈ keysOf S1 ∨ x ∈ keysOf E := fun x => by
        rw [hks x]
        have h9 := hgo.perm
        rw [List.append_nil] at h9
        have h8 : x ∈ keysOf done ↔ x ∈ keysOf E := (h9.map Prod.fst).mem_iff
        rw [h8]
      have hz1 := hkp.size
      have hs2' := HS2.out.keep (hkp.block s2 ⟨by omega, by omega, by omega⟩)
      have hm2' := HM2.out.keep (hkp.block m2 ⟨by omega, by omega, by omega⟩)
      obtain ⟨V2, rest2, hrange2, hgo2, hb2, hs2⟩ := hm2'.range Try.underlying95
      have x1 : wr.cell? ⟨w.heap.size + 1, 1, none⟩ = some (.map (some m2)) := by
        have h9 := (hkp.block (w.heap.size + 1) ⟨by omega, by omega, by omega⟩).trans HB.out
        have h8 := cell_of h9 1
        simpa using h8
      have hsl := hs.lt
      have HEK := hide hEk
      have HS1 := hide (hs.keep (hb2.block s1 hsl))
      have HS2 := hide (hs2'.keep (hb2.block s2 (by omega)))
      have HGO2 := hide hgo2
      have HB2 := hide hb2
      have HA2 := hide ((hb2.block w.heap.size (by omega)).trans ((hkp.block w.heap.size ⟨by omega, by omega, by omega⟩).trans HA.out))
      have HW2 : Hid (Keeps (fun k => k < w.heap.size ∧ k ≠ s1 ∧ k ≠ s2) w V2) := by
        have e1 : Keeps (fun k => k < w.heap.size ∧ k ≠ s1 ∧ k ≠ s2) w V1 := keeps_of (HBV.out.trans (HB1.out.mono (by omega))) (fun k hk => hk.1)
        have e2 : Keeps (fun k => k < w.heap.size ∧ k ≠ s1 ∧ k ≠ s2) V1 wr := hkp.mono fun k hk => ⟨by omega, hk.2.1, by omega⟩
        exact (e1.trans e2).trans (keeps_of hb2 (fun k hk => by omega))
      have HP2 : Hid (∀ b, KP b → b < w.heap.size ∧ PlainAt V2 ⟨b, 0, none⟩) := fun b hb => by
        obtain ⟨h1, c, e, h2⟩ := HP.out b hb
        exact ⟨h1, c, e, (hb2.block b (by omega)).trans ((hkp.block b ⟨by omega, fun e => HKM.out.1 (e ▸ hb), by omega⟩).trans ((HB1.out.block b (by omega)).trans h2))⟩
      generalize hR : wr.heap.size = r2 at hrange2 hgo2 hs2 hz1 HGO2 HB2
      clear hgo hs hks hkp hleft hplain hEk hs2' hm2' hgo2 hb2 HP
      go_wp2
      clear x1 hrange2 hnx
      have HX := hide hR
      go_loopw [] (fun ws => ∃ done2 rest S2', Goes ws r2 m2 D done2 rest ∧ PMap ws s2 S2' ∧ (∀ x, x ∈ keysOf S2' ↔ x ∈ keysOf S2 ∨ x ∈ keysOf done2) ∧ Keeps (fun k => k < V2.heap.size ∧ k ≠ s2 ∧ k ≠ r2) V2 ws) (fun ws => restLen ws r2 m2)
      case atStart => exact ⟨[], rest2, S2, HGO2.out, HS2.out, fun x => by simp [keysOf], Keeps.refl _ _⟩
      case round =>
        obtain ⟨done2, rest, S2', hgo, hs, hks, hkp⟩ := hrel
        have HKS := hide hks
        have HKP := hide hkp
        have hleft := hgo.left
        have hplain : ∀ a : Addr, KP a.block → ∃ c e, wr.heap[a.block]? = some (.cells c e (0, 0)) := fun a ha => by
          obtain ⟨h1, c, e, h2⟩ := HP2.out a.block ha
          exact ⟨c, e, (hkp.block a.block ⟨by omega, fun e => HKM.out.2 (e ▸ ha), by omega⟩).trans h2⟩
        rcases hgo.next (P := Try.prog) with ⟨hr0, hnx⟩ | ⟨p, rest', w1, hper, hnx, hgo1, hbu, hsz, hen⟩
        · subst hr0
          have hDk : Hid (∀ x, x ∈ keysOf S2' ↔ x ∈ keysOf S2 ∨ x ∈ keysOf D) := fun x => by
            rw [hks x]
            have h9 := hgo.perm
            rw [List.append_nil] at h9
            have h8 : x ∈ keysOf done2 ↔ x ∈ keysOf D := (h9.map Prod.fst).mem_iff
            rw [h8]
          have HM := hide hs
          have HM1 := hide (HS1.out.keep (hkp.block s1 ⟨by omega, by omega, by omega⟩))
          clear hgo hs hks hkp hleft hplain
          go_wp2
          go_end0
          exact ⟨rfl, S', S2', HM1.out, HM.out, HEK.out, hDk.out, HW2.out.trans (HKP.out.mono fun k hk => ⟨by omega, hk.2.2, by omega⟩)⟩
        · have hin : p.1 ∈ keysOf D := by
            have h9 : p ∈ D := hgo1.perm.mem_iff.1 (by simp)
            exact List.mem_map.2 ⟨p, h9, rfl⟩
          have hks1 : ∀ a ∈ keysOf S2', KP a.block := fun a ha => by
            rcases (hks a).1 ha with h | h
            · exact HK.out.2.1 a h
            · obtain ⟨q, hq, rfl⟩ := List.mem_map.1 h
              exact HK.out.2.2.2 _ (List.mem_map.2 ⟨q, hgo.perm.mem_iff.1 (List.mem_append_left _ hq), rfl⟩)
          have hlr := hgo.lt
          have hpl1 : ∀ a : Addr, KP a.block → PlainAt w1 a := fun a ha => by
            obtain ⟨c, e, h⟩ := hplain a ha
            obtain ⟨h1, -⟩ := HP2.out a.block ha
            exact ⟨c, e, (hbu.block a.block ⟨heap_lt h, by omega⟩).trans h⟩
          have hsl := hs.lt
          obtain ⟨w2, hup, hm1, hbu2, hs2⟩ := (hs.keep (hbu.block s2 ⟨hsl, by omega⟩)).update Try.underlying95 ptr_dec (a := p.1) 1 (hpl1 _ (HK.out.2.2.2 _ hin)) (fun a ha => hpl1 a (hks1 a ha))
          rw [show ((1 : Nat) : Int) = 1 from rfl] at hup
          have hz2 := hkp.size
          have z0 : w1.cell? ⟨w.heap.size, 1, none⟩ = some (.map (some s2)) := by
            have h9 := (hbu.block w.heap.size ⟨by omega, by omega⟩).trans ((hkp.block w.heap.size ⟨by omega, by omega, by omega⟩).trans HA2.out)
            have h8 := cell_of h9 1
            simpa using h8
          have hgo2 := hgo1.keep (w' := w2) (hbu2.block _ ⟨by omega, by omega⟩) (hbu2.block _ ⟨by omega, by omega⟩)
          have HG2 := hide hgo2
          have HM1 := hide hm1
          have HK2 : Hid (Keeps (fun k => k < V2.heap.size ∧ k ≠ s2 ∧ k ≠ r2) V2 w2) := hkp.trans ⟨hbu2.os.trans hbu.os, hbu2.tape.trans hbu.tape, hbu2.output.trans hbu.output, Nat.le_trans hbu.size hbu2.size, fun k hk => (hbu2.block k ⟨by omega, by omega⟩).trans (hbu.block k ⟨by omega, by omega⟩)⟩
          have HML : Hid (restLen w2 r2 m2 < restLen wr r2 m2) := by
            have h7 := hper.length_eq
            rw [List.length_cons] at h7
            show restLen w2 r2 m2 < restLen wr r2 m2
            rw [hgo2.left, hleft]
            omega
          clear hgo hs hks hkp hleft hplain hper hgo1 hbu hin hks1 hpl1 hm1 hbu2 hgo2
          go_wp2
          go_roundw
          case rel =>
            refine ⟨done2 ++ [p], rest', _, HG2.out, HM1.out, fun x => ?_, HK2.out⟩
            rw [setA_mem, HKS.out, keys_app, or_assoc]
            simp [keysOf]
          case measure => exact HML.out
    · have hin : p.1 ∈ keysOf E := by
        have h9 : p ∈ E := hgo1.perm.mem_iff.1 (by simp)
        exact List.mem_map.2 ⟨p, h9, rfl⟩
      have hks1 : ∀ a ∈ keysOf S', KP a.block := fun a ha => by
        rcases (hks a).1 ha with h | h
        · exact HK.out.1 a h
        · obtain ⟨q, hq, rfl⟩ := List.mem_map.1 h
          exact HK.out.2.2.1 _ (List.mem_map.2 ⟨q, hgo.perm.mem_iff.1 (List.mem_append_left _ hq), rfl⟩)
      have hlr := hgo.lt
      have hpl1 : ∀ a : Addr, KP a.block → PlainAt w1 a := fun a ha => by
        obtain ⟨c, e, h⟩ := hplain a ha
        obtain ⟨h1, -⟩ := HP.out a.block ha
        exact ⟨c, e, (hbu.block a.block ⟨heap_lt h, by omega⟩).trans h⟩
      have hsl := hs.lt
      obtain ⟨w2, hup, hm1, hbu2, hs2⟩ := (hs.keep (hbu.block s1 ⟨hsl, by omega⟩)).update Try.underlying94 ptr_exp (a := p.1) 1 (hpl1 _ (HK.out.2.2.1 _ hin)) (fun a ha => hpl1 a (hks1 a ha))
      rw [show ((1 : Nat) : Int) = 1 from rfl] at hup
      have hz1 := hkp.size
      have z0 : w1.cell? ⟨w.heap.size, 0, none⟩ = some (.map (some s1)) := by
        have h9 := (hbu.block w.heap.size ⟨by omega, by omega⟩).trans ((hkp.block w.heap.size ⟨by omega, by omega, by omega⟩).trans HA.out)
        have h8 := cell_of h9 0
        simpa using h8
      have hgo2 := hgo1.keep (w' := w2) (hbu2.block _ ⟨by omega, by omega⟩) (hbu2.block _ ⟨by omega, by omega⟩)
      have HG2 := hide hgo2
      have HM1 := hide hm1
      have HK2 : Hid (Keeps (fun k => k < V1.heap.size ∧ k ≠ s1 ∧ k ≠ (w.heap.size + 2)) V1 w2) := hkp.trans ⟨hbu2.os.trans hbu.os, hbu2.tape.trans hbu.tape, hbu2.output.trans hbu.output, Nat.le_trans hbu.size hbu2.size, fun k hk => (hbu2.block k ⟨by omega, by omega⟩).trans (hbu.block k ⟨by omega, by omega⟩)⟩
      have HML : Hid (restLen w2 (w.heap.size + 2) m1 < restLen wr (w.heap.size + 2) m1) := by
        have h7 := hper.length_eq
        rw [List.length_cons] at h7
        show restLen w2 (w.heap.size + 2) m1 < restLen wr (w.heap.size + 2) m1
        rw [hgo2.left, hleft]
        omega
      clear hgo hs hks hkp hleft hplain hper hgo1 hbu hin hks1 hpl1 hm1 hbu2 hgo2
      go_wp2
      go_roundw
      case rel =>
        refine ⟨done ++ [p], rest', _, HG2.out, HM1.out, fun x => ?_, HK2.out⟩
        rw [setA_mem, HKS.out, keys_app, or_assoc]
        simp [keysOf]
      case measure => exact HML.out
end Go.Proofs.Ytegcebeaelpjhaj
