/-
  FirstClaims and CostsOf of impl. No condition but the lengths' bound.
-/
import Derived.Test.YtkmdpmhaljieaaaImp7b
import Derived.Test.YtkmdpmhaljieaaaImp7d
import Derived.Test.YtkmdpmhaljieaaaImp7f
namespace Go.Proofs.Ytkmdpmhaljieaaa
open Go.RowKit Go.ChangeShapes Go.WideShapes Go.ChangeAt

set_option maxHeartbeats 2000000 in
theorem implCostsOf_w {A : Option Addr} {n c : Nat} {ks : List Tri} {nz : Int} {w : World} (h : HasK w A n ks) (hn : n ≤ 16777216) :
    Calls Try.prog 25 #[.int .i64 nz, .slice A n c] w fun e w' => ∃ A' n' c', e = .returned (.slice A' n' c') ∧ Own w' w.heap.size 3 A' n' c' (ints .i64 (costsI nz ks)) ∧ Below w.heap.size w w' := by
  by_cases hv : kOk nz ks
  · have N := kOk_yes hv
    generalize nz.toNat = m at N
    generalize ks.map cabOf = cs at N
    have C1 := Lib.hid (implCablesValid_b (c := c) h hn (decide_eq_true hv))
    have hm := N.le
    have hp := N.pos
    have HE := Lib.hid N.costs
    have hl : cs.length = n := by have h1 := h.1; rw [N.ks_eq, List.length_map] at h1; exact h1
    have hnn : n ≤ 20 := by have := N.few; omega
    have HL := Lib.hid hl
    clear hl
    obtain rfl := N.n_eq
    obtain rfl := N.ks_eq
    have HC := Lib.hid N.ok
    clear hv N
    go_enter Try.func25, Try.ntmps25
    go_wp2_with (fail)
    refine C1.out.mono ?_
    rintro e w1 ⟨rfl, B1⟩
    go_wp2_with (fail)
    refine (cableEnds_any (h.bel B1) HC.out hm hnn).mono ?_
    rintro e w2 ⟨g2, rfl, ⟨v2, O2⟩, B2⟩
    have B12 := bel_trans B1 B2
    go_wp2_with (fail)
    refine (rootsOf_any (h.bel B12) HC.out hm hnn).mono ?_
    rintro e w3 ⟨g3, rfl, O3, B3⟩
    have B13 := bel_trans B12 B3
    go_wp2_with (fail)
    refine (leastCosts_any (O2.has.bel B3) O3.has HC.out hp hm HL.out hnn).mono ?_
    rintro e w4 ⟨A4, c4, rfl, O4, B4⟩
    have B14 := bel_trans B13 B4
    go_wp2
    go_ret
    exact ⟨_, _, _, rfl, by rw [HE.out]; exact O4.mono B13.size, B14⟩
  · have HE := Lib.hid (show costsI nz ks = [] by unfold costsI; rw [if_neg hv])
    have C1 := Lib.hid (implCablesValid_b (c := c) h hn (decide_eq_false hv))
    clear hv
    go_enter Try.func25, Try.ntmps25
    go_wp2_with (fail)
    refine C1.out.mono ?_
    rintro e w1 ⟨rfl, B1⟩
    go_wp2
    go_ret
    exact ⟨_, _, _, rfl, by rw [HE.out]; exact ⟨rfl, .inl ⟨rfl, rfl⟩⟩, B1⟩
set_option maxHeartbeats 2000000 in
theorem implFirstClaims_w {nz : Int} {w : World} :
    Calls Try.prog 37 #[.int .i64 nz] w fun e w' => ∃ A' n' c', e = .returned (.slice A' n' c') ∧ OwnLI w' w.heap.size A' n' c' (firstI nz) ∧ Below w.heap.size w w' := by
  by_cases hv : 1 ≤ nz ∧ nz ≤ 8
  · obtain ⟨m, rfl⟩ := Int.eq_ofNat_of_zero_le (show 0 ≤ nz by omega)
    have HE := Lib.hid (show firstI (m : Int) = firstL m by unfold firstI; rw [if_pos hv]; rfl)
    have C1 := Lib.hid (fun W => areBridges_b (n := (m : Int)) W (decide_eq_true hv))
    have h8 : m ≤ 8 := by omega
    have h1000 : m ≤ 1000 := by omega
    clear hv
    go_enter Try.func37, Try.ntmps37
    go_wp2_with (fail)
    refine (C1.out _).mono ?_
    rintro e w1 ⟨rfl, rfl⟩
    go_wp2_with (fail)
    refine (firstClaims_any h8).mono ?_
    rintro e w2 ⟨g2, rfl, O2, B2⟩
    go_wp2_with (fail)
    refine (claimLists_any O2.has firstL_four h1000).mono ?_
    rintro e w3 ⟨g3, rfl, O3, B3⟩
    have B13 := bel_trans B2 B3
    go_wp2
    go_ret
    exact ⟨_, _, _, rfl, by rw [HE.out]; exact O3.mono B2.size, B13⟩
  · have HE := Lib.hid (show firstI nz = [] by unfold firstI; rw [if_neg hv])
    have C1 := Lib.hid (fun W => areBridges_b (n := nz) W (decide_eq_false hv))
    clear hv
    go_enter Try.func37, Try.ntmps37
    go_wp2_with (fail)
    refine (C1.out _).mono ?_
    rintro e w1 ⟨rfl, rfl⟩
    go_wp2
    go_ret
    exact ⟨_, _, _, rfl, by rw [HE.out]; exact ownLI_nil _ _, Below.refl _ _⟩
end Go.Proofs.Ytkmdpmhaljieaaa
