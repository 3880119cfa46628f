/- Pairs of Ress put, of two rows (made by genMF.py). -/
import Derived.Test.YtpkibfmjhlfafaaME
import Derived.Test.YtpkibfmjhlfafaaMDr
namespace Go.Proofs.Ytpkibfmjhlfafaa.PR
open Go.RowKit Go.Proofs.Ytpkibfmjhlfafaa

theorem putAll_no (g o na nb ca cb : Nat) (oa ob : Option Addr) (w : World) (h1 : na ≤ maxLen) (h2 : nb ≤ maxLen) (hne : na ≠ nb) :
    Calls Try.prog 17 #[.pointer (some ⟨g, o, none⟩), .slice oa na ca, .slice ob nb cb] w fun e w' => e = .returned (.bool false) ∧ w' = w := by
  have h3 : na ≤ 9223372036854775807 := h1
  have h4 : nb ≤ 9223372036854775807 := h2
  have h5 : ¬ (na : Int) = nb := by omega
  clear h1 h2
  go_enter Try.func17, Try.ntmps17
  go_wp2
  go_ret
  exact ⟨rfl, rfl⟩
set_option maxHeartbeats 2000000 in
set_option maxRecDepth 100000 in
theorem putAll_yes (g o n ca cb ba pa bb pb : Nat) (oa ob : Option Addr) (w : World) (c : Array Value) (e : TypeId) (K : Nat → Prop) (vl : Value) (mo : Option Nat) (ls ks : List (Addr × Addr))
    (hg : w.heap[g]? = some (.cells c e (0, 0))) (hc0 : c[o]? = some vl) (hc1 : c[o + 1]? = some (.map mo)) (h : PairsMem 47 w K g vl mo ls ks)
    (hoa : n ≠ 0 → oa = some ⟨ba, pa, none⟩ ∧ ob = some ⟨bb, pb, none⟩ ∧ K ba ∧ K bb ∧ PlainAt w ⟨ba, 0, none⟩ ∧ PlainAt w ⟨bb, 0, none⟩) (hn : ls.length + n ≤ 10000000) :
    Calls Try.prog 17 #[.pointer (some ⟨g, o, none⟩), .slice oa n ca, .slice ob n cb] w fun e' w' => e' = .returned (.bool true) ∧ PairsNow 47 w w' K g o c e (ls ++ adds ks (places ba pa bb pb 4 n)) (ks ++ adds ks (places ba pa bb pb 4 n)) := by
  have HO := hide hoa
  have HN := hide (PairsNow.refl hg hc0 hc1 h)
  clear hoa hg hc0 hc1 h
  go_enter Try.func17, Try.ntmps17
  go_wp2
  go_loopw [15] (fun t wr => ∃ i : Nat, i ≤ n ∧ t = .int .i64 i ∧ PairsNow 47 w wr K g o c e (ls ++ adds ks (places ba pa bb pb 4 i)) (ks ++ adds ks (places ba pa bb pb 4 i))) (fun t _ => n - (intOf t).toNat)
  case atStart => exact ⟨0, Nat.zero_le _, rfl, by simpa [places, adds] using HN.out⟩
  case round =>
    obtain ⟨i, hi, rfl, hnow⟩ := hrel
    have HI := hide hnow
    clear hnow
    by_cases hlt : i < n
    · obtain ⟨rfl, rfl, ka, kb, pla, plb⟩ := HO.out (by omega)
      have hbd : Below wr.heap.size wr wr.drew := (Below.refl _ wr).drew
      obtain ⟨c', vl', mo', j1, j2, j3, j4, j5, j6⟩ := HI.out.later hbd
      have hlen := adds_len ks (places ba pa bb pb 4 i)
      rw [places_len] at hlen
      have HPUT := hide (put_any ⟨ba, pa + i * 4, none⟩ ⟨bb, pb + i * 4, none⟩ g o wr.drew c' e K vl' mo' _ _ j1 j2 j3 j5 ka kb (PlainAt.block (x := ⟨ba, pa + i * 4, none⟩) pla (j6.block ba ka)) (PlainAt.block (x := ⟨bb, pb + i * 4, none⟩) plb (j6.block bb kb)) (by simp only [List.length_append]; omega))
      have HJ := hide (And.intro j4 j6)
      have hlt2 : (i : Int) < n := by omega
      clear hbd j1 j2 j3 j4 j5 j6 ka kb pla plb hlen
      go_wp2
      go_region_with (refine HPUT.out.mono ?_; rintro e' w1 ⟨rfl, hp⟩; have HP1 := hide hp; clear hp)
      all_goals
        go_wp2
        refine ⟨⟨i + 1, by omega, by go_num, ?_⟩, by simp [intOf]; omega⟩
        have h2 := HP1.out.on HJ.out.1 HJ.out.2
        rw [List.append_assoc, List.append_assoc, ← adds_snoc, ← places_succ] at h2
        exact h2
    · go_wp2
      go_ret
      have hie : i = n := by omega
      subst hie
      exact ⟨rfl, HI.out⟩
end Go.Proofs.Ytpkibfmjhlfafaa.PR
