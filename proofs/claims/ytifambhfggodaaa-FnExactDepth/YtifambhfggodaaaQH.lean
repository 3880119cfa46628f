/- A region that draws its order, inside a fence, by what holds all the way: each operation is walked once, whatever came ahead of it. -/
import Derived.Test.YtifambhfggodaaaBase
import Derived.OrdersIn
import Derived.TacticsIn
import Derived.TacticsInMore
namespace Go.Proofs.Ytifambhfggodaaa
open Go.RowKit

/-- Each operation waits for what stands ahead of it in the text alone. -/
def aheadB (md : Region.Mode) (ops : Array Oper) : Bool := (List.range ops.size).all fun i => ((ops[i]?).map fun o => o.after.all fun e => !Region.binds md e || decide (e.on < i)).getD true
section
variable {F : Fence} {n : Nat} {P : Program} {ops : Array Oper} {Q : Exit → Act → World → Prop} {md : Region.Mode}
theorem all_listed (hB : aheadB md ops = true) {listed : Array Bool} (hs : listed.size = ops.size) (hr : Region.ready md ops listed = []) : ∀ i, i < ops.size → listed.getD i false = true := by
  intro i
  induction i using Nat.strongRecOn with
  | ind i ih =>
    intro hi
    cases hl : listed.getD i false with
    | true => rfl
    | false =>
      exfalso
      have ho : ops[i]? = some ops[i] := Array.getElem?_eq_getElem hi
      have hB2 := List.all_eq_true.1 hB i (List.mem_range.2 hi)
      rw [ho] at hB2
      simp only [Option.map_some, Option.getD_some, Array.all_eq_true_iff_forall_mem, Bool.or_eq_true, Bool.not_eq_true', decide_eq_true_eq] at hB2
      have hm : i ∈ Region.ready md ops listed := mem_ready.2 ⟨by
        have hi2 : i < listed.size := by omega
        simpa [hi2] using hl, ops[i], ho, fun e he hb => by
        rcases hB2 e he with h1 | h1
        · rw [hb] at h1; cases h1
        · exact ih e.on h1 (by omega)⟩
      rw [hr] at hm
      cases hm
def cntB (l : List Bool) : Nat := l.countP fun b => !b
theorem cnt_set {listed : Array Bool} {i : Nat} (h : listed.getD i true = false) : cntB (listed.setIfInBounds i true).toList + 1 = cntB listed.toList := by
  have hi : i < listed.size := by
    rcases Nat.lt_or_ge i listed.size with h1 | h1
    · exact h1
    · simp [Array.getElem?_eq_none h1] at h
  have hl : listed[i] = false := by simpa [hi] using h
  unfold cntB
  have key : ∀ (l : List Bool) (i : Nat), l[i]? = some false → (l.set i true).countP (fun b => !b) + 1 = l.countP fun b => !b := by
    intro l
    induction l with
    | nil => intro i h; cases h
    | cons b l ih =>
      intro i h
      cases i with
      | zero =>
        have : b = false := by simpa using h
        subst this
        simp
      | succ i =>
        have := ih i (by simpa using h)
        simp only [List.set_cons_succ, List.countP_cons]
        omega
  have h2 : listed.toList[i]? = some false := by rw [Array.getElem?_toList, Array.getElem?_eq_getElem hi, hl]
  rw [Array.toList_setIfInBounds]
  exact key _ _ h2
theorem wpAnyIn_inv (I : Array Bool → Act → World → Prop) (hstep : ∀ listed a w, listed.size = ops.size → I listed a w → ∀ i ∈ Region.ready md ops listed, wpOpIn F n P ops Q i (I (listed.setIfInBounds i true)) a w)
    (hend : ∀ listed a w, listed.size = ops.size → I listed a w → Region.ready md ops listed = [] → Q .normal a w) :
    ∀ (fuel : Nat) (listed : Array Bool) (a : Act) (w : World), listed.size = ops.size → cntB listed.toList ≤ fuel → I listed a w → wpAnyIn F n P md ops Q fuel listed a w := by
  intro fuel
  induction fuel with
  | zero =>
    intro listed a w hs hc hI
    have hr : Region.ready md ops listed = [] := by
      rcases hr : Region.ready md ops listed with _ | ⟨i, r⟩
      · rfl
      · exfalso
        have hi : i ∈ Region.ready md ops listed := by rw [hr]; simp
        have := cnt_set (mem_ready.1 hi).1
        omega
    exact ⟨hr, hend listed a w hs hI hr⟩
  | succ fuel ih =>
    intro listed a w hs hc hI
    refine ⟨fun hr => hend listed a w hs hI hr, fun i hi => ?_⟩
    refine wpOpIn_mono (fun a' w' h => ?_) (hstep listed a w hs hI i hi)
    have h1 := cnt_set (mem_ready.1 hi).1
    exact ih _ a' w' (by simpa using hs) (by omega) h
/-- THE RULE: I holds of what has been done, and goes on whatever comes next; at the end all has been done. -/
theorem wpIn_region_inv {id : Nat} {a : Act} {w : World} (I : Array Bool → Act → World → Prop) (hm : P.follows .mixedOrders = true) (hB : aheadB .any ops = true) (h0 : I (Array.replicate ops.size false) a w.drew)
    (hstep : ∀ listed a w, listed.size = ops.size → I listed a w → ∀ i ∈ Region.ready .any ops listed, wpOpIn F n P ops Q i (I (listed.setIfInBounds i true)) a w)
    (hend : ∀ listed a w, listed.size = ops.size → I listed a w → (∀ i, i < ops.size → listed.getD i false = true) → Q .normal a w) : (Code.region id ops true).wpIn F n P Q a w :=
  wpIn_region_any hm (wpAnyIn_inv (md := .any) I hstep (fun listed a w hs hI hr => hend listed a w hs hI (all_listed hB hs hr)) _ _ a _ (by simp) (by
    unfold cntB
    have := List.countP_le_length (p := fun b : Bool => !b) (l := (Array.replicate ops.size false).toList)
    simpa using this) h0)
/-- What is known of an operation that comes up. -/
theorem ready_lt {i : Nat} {listed : Array Bool} (h : i ∈ Region.ready md ops listed) : i < ops.size := by
  obtain ⟨-, o, ho, -⟩ := mem_ready.1 h
  exact (Array.getElem?_eq_some_iff.1 ho).1
def depB (md : Region.Mode) (ops : Array Oper) (i d : Nat) : Bool := ((ops[i]?).map fun o => o.after.any fun e => Region.binds md e && e.on == d).getD false
theorem ready_dep {i : Nat} (d : Nat) {listed : Array Bool} (h : i ∈ Region.ready md ops listed) (hd : depB md ops i d = true) : listed.getD d false = true := by
  obtain ⟨-, o, ho, hall⟩ := mem_ready.1 h
  unfold depB at hd
  rw [ho] at hd
  simp only [Option.map_some, Option.getD_some, Array.any_eq_true'] at hd
  obtain ⟨e, he, h2⟩ := hd
  simp only [Bool.and_eq_true, beq_iff_eq] at h2
  rw [← h2.2]
  exact hall e he h2.1
end
end Go.Proofs.Ytifambhfggodaaa
