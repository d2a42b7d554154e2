/-
  Slices of bools: what is proved here is how they are read, and how the laws' own words copy, compare and mark them. Condition: lengths up to 2^24.
-/
import Derived.Test.YthcfjnedpffbbaaDoorDraw1
import Derived.Deep.Slices
namespace Go.Proofs.YthcfjnedpffbbaaDoor
open Go.RowKit

def bools (l : List Bool) : List Value := l.map Value.bool
theorem bools_len (l : List Bool) : (bools l).length = l.length := by simp [bools]
theorem bools_set (l : List Bool) (i : Nat) (b : Bool) : (bools l).set i (.bool b) = bools (l.set i b) := by simp [bools, List.map_set]
theorem bools_app (a b : List Bool) : bools (a ++ b) = bools a ++ bools b := by simp [bools]
theorem bools_get (l : List Bool) (i : Nat) (h : i < l.length) : (bools l)[i]? = some (.bool (l.getD i false)) := by
  unfold bools
  rw [List.getElem?_map, List.getD_eq_getElem?_getD, List.getElem?_eq_getElem h]
  rfl
theorem has_bool {w : World} {A : Option Addr} {n : Nat} {us : List Bool} (h : Has w A n (bools us)) {i : Nat} (hi : i < n) :
    ∃ b o, A = some ⟨b, o, none⟩ ∧ b < w.heap.size ∧ w.cell? ⟨b, o + i, none⟩ = some (.bool (us.getD i false)) := by
  have hl := h.1
  rw [bools_len] at hl
  obtain ⟨b, o, hA, hc⟩ := h.2 i hi
  rw [bools_get us i (by omega)] at hc
  exact ⟨b, o, hA, World.block_lt_of_cell? w _ hc, hc⟩
theorem has_bools_len {w : World} {A : Option Addr} {n : Nat} {us : List Bool} (h : Has w A n (bools us)) : us.length = n := by
  have hl := h.1
  rwa [bools_len] at hl
theorem own_bool {w : World} {lo n c : Nat} {A : Option Addr} {e : TypeId} {us : List Bool} (h : Own w lo e A n c (bools us)) {i : Nat} (hi : i < n) :
    ∃ g, A = some ⟨g, 0, none⟩ ∧ w.cell? ⟨g, i, none⟩ = some (.bool (us.getD i false)) ∧ w.frozen? ⟨g, i, none⟩ = false := by
  obtain ⟨g, o, hA, _, _⟩ := has_bool h.has hi
  subst hA
  have ho : (⟨g, o, none⟩ : Addr) = ⟨g, 0, none⟩ := h.at_head
  obtain rfl : o = 0 := by injection ho
  obtain ⟨u, hu, hc, hf⟩ := h.at_ hi
  refine ⟨g, rfl, hc.trans ?_, hf⟩
  rw [← hu, bools_get us i (by rw [has_bools_len h.has]; exact hi)]

open Go.ChangeShapes Go.WideShapes Go.ChangeAt Go.Deep in
/-- Bools that came in. -/
theorem hasB_of_trod {H : Type} {enc : TypeId × Value → H} {P : Program} {W : World} {base : Nat} {spare : Nat → Bool} {held : Bool} {t e : TypeId} {A : Option Addr} {n c : Nat} {d : DataW H} {p : List MemPlace}
    (ht : P.underlying t = some (.slice e)) (he : P.underlying e = some .bool) (hC : P.cellsOf e = 1) (h : DataW.Trod enc P W base spare held t (.slice A n c) d p) :
    ∃ us, Has W A n (bools us) ∧ True ∧ n ≤ c ∧ c ≤ maxLen := by
  obtain ⟨fuel, hf⟩ := h
  rcases open_slice ht hf with ⟨hcs, _⟩ | ⟨x, l, c', m, n', D, Pl, hcs, _, hl, hm, hmm, _, hi⟩
  · simp [Value.cells] at hcs
    obtain ⟨rfl, rfl, rfl⟩ := hcs
    exact ⟨[], ⟨rfl, fun i hi => absurd hi (by omega)⟩, trivial, by simp, by simp⟩
  · simp [Value.cells] at hcs
    obtain ⟨rfl, rfl, rfl⟩ := hcs
    have hnm : n ≤ m := by rw [hmm]; split <;> omega
    have key : ∀ i, i < n → ∃ u : Bool, W.cell? (x.add i) = some (.bool u) := fun i hin => by
      obtain ⟨cs', hc, ht'⟩ := hi i (by omega)
      rw [hC] at hc
      obtain ⟨_, hcl, hat⟩ := World.cells?_some hc
      obtain ⟨u, eu, _⟩ := DataW.trod_bool he ht'
      refine ⟨u, ?_⟩
      have h0 := hat 0 (by omega)
      rw [eu] at h0
      have e1 : (x.add (i * 1)).add 0 = x.add i := by rw [Go.Deep.add_add]; simp
      rw [e1] at h0
      exact h0
    have key2 : ∀ i : Nat, ∃ u : Bool, i < n → W.cell? (x.add i) = some (.bool u) := fun i => by
      by_cases hin : i < n
      · obtain ⟨u, r⟩ := key i hin
        exact ⟨u, fun _ => r⟩
      · exact ⟨false, fun hh => absurd hh hin⟩
    obtain ⟨F, hF⟩ := Classical.axiomOfChoice key2
    refine ⟨(List.range n).map F, ⟨by simp [bools], fun i hin => ?_⟩, trivial, hl, hm⟩
    have c0 := hF i hin
    obtain ⟨b, off, spot⟩ := x
    have hspot : spot = none := by
      have c00 := hF 0 (by omega)
      simpa [Addr.add] using World.cell?_spot c00
    subst hspot
    have hadd : ∀ k, (⟨b, off, none⟩ : Addr).add k = ⟨b, off + k, none⟩ := fun k => by unfold Addr.add; split <;> simp_all
    rw [hadd] at c0
    exact ⟨b, off, rfl, by rw [c0]; simp [bools, hin]⟩

theorem Tryd.infoBool : (Tryd.prog.info? 4).map (fun i => (i.zero, i.size, i.bytes)) = some (some (.bool false), 1, 1) := by kernel_rfl
theorem made_bools (m : Nat) : (madeCells (Value.cells (.bool false)) (m * 1)).toList = bools (List.replicate m false) := by
  rw [Nat.mul_one, show bools (List.replicate m false) = List.replicate m (.bool false) by simp [bools]]; exact toList_madeCells_one _ _


set_option maxHeartbeats 1000000 in
theorem eqBoolS_same {A A' : Option Addr} {n c n' c' : Nat} {us : List Bool} {w : World} (h : Has w A n (bools us)) (h' : Has w A' n' (bools us)) (hn : n ≤ 16777216) :
    Calls Tryd.prog 78 #[.slice A n c, .slice A' n' c'] w fun e w' => e = .returned (.bool true) ∧ ∃ m, w' = w.drewN m := by
  obtain rfl : n' = n := by have := h.1; have := h'.1; omega
  go_enter Tryd.func78, Tryd.ntmps78
  go_wp2
  go_loopw [5] (fun i wr => ∃ k : Nat, k ≤ n' ∧ i = .int .i64 k ∧ ∃ m, wr = w.drewN m) (fun i _ => n' - (intOf i).toNat)
  case atStart => exact ⟨0, Nat.zero_le _, rfl, 0, rfl⟩
  case round =>
    obtain ⟨k, hk, rfl, m, rfl⟩ := hrel
    by_cases hlt : k < n'
    · obtain ⟨b, o, rfl, hbl, hc⟩ := has_bool h hlt
      obtain ⟨b', o', rfl, hbl', hc'⟩ := has_bool h' hlt
      have hk0 : (0 : Int) ≤ (k : Int) := by omega
      have hk1 : (k : Int) < (n' : Int) := by omega
      obtain ⟨u, hu⟩ : ∃ u, us.getD k false = u := ⟨_, rfl⟩
      rw [hu] at hc hc'
      have eB : (u != u) = false := by simp
      have eC : (u == u) = true := by simp
      clear hu
      go_wp2
      go_quiet (fail)
      go_wp2
      go_roundw
      case rel => exact ⟨k + 1, by omega, by go_num, _, rfl⟩
      case measure => simp [intOf]; omega
    · obtain rfl : k = n' := by omega
      go_wp2
      go_ret
      exact ⟨rfl, _, rfl⟩
theorem eqBoolS_b {A A' : Option Addr} {n c n' c' : Nat} {us : List Bool} {w : World} (h : Has w A n (bools us)) (h' : Has w A' n' (bools us)) (hn : n ≤ 16777216) :
    Calls Tryd.prog 78 #[.slice A n c, .slice A' n' c'] w fun e w' => e = .returned (.bool true) ∧ Below w.heap.size w w' :=
  (eqBoolS_same h h' hn).mono fun e w' hh => ⟨hh.1, by obtain ⟨_, m, rfl⟩ := hh; exact below_drewN _ _⟩

set_option maxHeartbeats 1000000 in
theorem markBoolS_any {A : Option Addr} {n c lo K : Nat} {e0 : TypeId} {us : List Bool} {w : World} (h : Own w lo e0 A n c (bools us)) (hn : n ≤ 16777216) (hK : K ≤ 1099511627776) :
    Calls Tryd.prog 79 #[.slice A n c, .int .i64 K] w fun e w' => e = .returned (.int .i64 ((K + n : Nat) : Int)) ∧ (∃ vs, Own w' lo e0 A n c (bools vs)) ∧ w.grownBy w' (A.map (·.block)) := by
  go_enter Tryd.func79, Tryd.ntmps79
  go_wp2
  go_loopw [1, 5] (fun q i wr => ∃ (k : Nat) (vs : List Bool), k ≤ n ∧ i = .int .i64 k ∧ q = .int .i64 ((K + k : Nat) : Int) ∧ Own wr lo e0 A n c (bools vs) ∧ w.grownBy wr (A.map (·.block))) (fun _ i _ => n - (intOf i).toNat)
  case atStart => exact ⟨0, us, Nat.zero_le _, rfl, rfl, h, World.grownBy.refl _ _⟩
  case round =>
    obtain ⟨k, vs, hk, rfl, rfl, hown, hg⟩ := hrel
    by_cases hlt : k < n
    · obtain ⟨g, hA, _⟩ := own_bool h hlt
      subst hA
      obtain ⟨u, hu, hd, hf⟩ := hown.at_ hlt
      clear hu
      have hO := fun b : Bool => hown.set_ k (.bool b)
      have hG := fun v : Value => grown_set hg k v
      obtain ⟨r, hr⟩ : ∃ r, (K + k) % 3 = r := ⟨_, rfl⟩
      by_cases h3 : r = 0
      · have r0 : ((((K : Int) + (k : Int)) % 3) == 0) = true := by simp; omega
        have r1 : ((((K : Int) + (k : Int)).tmod 3) == 0) = true := by rw [Int.tmod_eq_emod_of_nonneg (by omega)]; exact r0
        have r2 : ((((K + k : Nat) : Int).tmod 3) == 0) = true := by rw [Int.tmod_eq_emod_of_nonneg (by omega)]; simp; omega
        clear hr h3
        go_wp2
        go_roundw
        case rel => exact ⟨k + 1, _, by omega, by go_num, by go_num, by rw [← bools_set]; exact hO true, hG _⟩
        case measure => simp [intOf]; omega
      · have r0 : ((((K : Int) + (k : Int)) % 3) == 0) = false := by simp; omega
        have r1 : ((((K : Int) + (k : Int)).tmod 3) == 0) = false := by rw [Int.tmod_eq_emod_of_nonneg (by omega)]; exact r0
        have r2 : ((((K + k : Nat) : Int).tmod 3) == 0) = false := by rw [Int.tmod_eq_emod_of_nonneg (by omega)]; simp; omega
        clear hr h3
        go_wp2
        go_roundw
        case rel => exact ⟨k + 1, _, by omega, by go_num, by go_num, by rw [← bools_set]; exact hO false, hG _⟩
        case measure => simp [intOf]; omega
    · obtain rfl : k = n := by omega
      go_wp2
      go_ret
      exact ⟨rfl, ⟨vs, hown⟩, hg⟩
end Go.Proofs.YthcfjnedpffbbaaDoor
