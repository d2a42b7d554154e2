/-
  Chapter 16's program, slices.Reverse of ints and RouteYX: what is proved here is what they return, and that they write nothing that was there. No condition.
-/
import Derived.Test.YthcfjnedpffbbaaDoorImp16a
namespace Go.Proofs.YthcfjnedpffbbaaDoor
open Go.RowKit

/- Turned round from both ends, k numbers of each. -/
def turned (zs : List Int) (k : Nat) : List Int := (List.range zs.length).map fun i => if i < k ∨ zs.length - k ≤ i then zs.getD (zs.length - 1 - i) 0 else zs.getD i 0
theorem turned_len (zs : List Int) (k : Nat) : (turned zs k).length = zs.length := by simp [turned]
theorem turned_at (zs : List Int) (k : Nat) {i : Nat} (h : i < zs.length) : (turned zs k)[i]? = some (if i < k ∨ zs.length - k ≤ i then zs.getD (zs.length - 1 - i) 0 else zs.getD i 0) := by simp [turned, h]
theorem turned_zero (zs : List Int) : turned zs 0 = zs := by
  apply List.ext_getElem?
  intro i
  by_cases h : i < zs.length
  · rw [turned_at zs 0 h, if_neg (by omega), List.getD_eq_getElem?_getD, List.getElem?_eq_getElem h]; rfl
  · rw [List.getElem?_eq_none (by rw [turned_len]; omega), List.getElem?_eq_none (by omega)]
theorem turned_all (zs : List Int) {k : Nat} (h : zs.length ≤ 2 * k + 1) : turned zs k = zs.reverse := by
  apply List.ext_getElem?
  intro i
  by_cases hi : i < zs.length
  · rw [turned_at zs k hi, List.getElem?_reverse hi]
    rw [List.getElem?_eq_getElem (show zs.length - 1 - i < zs.length by omega)]
    by_cases hc : i < k ∨ zs.length - k ≤ i
    · rw [if_pos hc, List.getD_eq_getElem?_getD, List.getElem?_eq_getElem (show zs.length - 1 - i < zs.length by omega)]; rfl
    · rw [if_neg hc, List.getD_eq_getElem?_getD, List.getElem?_eq_getElem hi]
      have : zs.length - 1 - i = i := by omega
      simp only [this]; rfl
  · rw [List.getElem?_eq_none (by rw [turned_len]; omega), List.getElem?_eq_none (by rw [List.length_reverse]; omega)]
theorem turned_step (zs : List Int) {k : Nat} (h : 2 * k + 1 < zs.length) : ((turned zs k).set k (zs.getD (zs.length - 1 - k) 0)).set (zs.length - 1 - k) (zs.getD k 0) = turned zs (k + 1) := by
  apply List.ext_getElem?
  intro i
  by_cases hi : i < zs.length
  · rw [turned_at zs (k + 1) hi, List.getElem?_set, List.getElem?_set]
    by_cases h1 : zs.length - 1 - k = i
    · rw [if_pos h1, if_pos (by simp [turned_len]; omega), if_pos (by omega)]
      rw [show zs.length - 1 - i = k by omega]
    · rw [if_neg h1]
      by_cases h2 : k = i
      · rw [if_pos h2, if_pos (by rw [turned_len]; omega), if_pos (by omega), h2]
      · rw [if_neg h2, turned_at zs k hi]
        by_cases hc : i < k ∨ zs.length - k ≤ i
        · rw [if_pos hc, if_pos (by omega)]
        · rw [if_neg hc, if_neg (by omega)]
  · rw [List.getElem?_eq_none (by simp [turned_len]; omega), List.getElem?_eq_none (by rw [turned_len]; omega)]
theorem turned_mid (zs : List Int) {k : Nat} (h : 2 * k + 1 < zs.length) : (turned zs k)[k]? = some (zs.getD k 0) ∧ (turned zs k)[zs.length - 1 - k]? = some (zs.getD (zs.length - 1 - k) 0) := by
  constructor
  · rw [turned_at zs k (by omega), if_neg (by omega)]
  · rw [turned_at zs k (by omega), if_neg (by omega)]
set_option maxRecDepth 100000 in
set_option maxHeartbeats 4000000 in
theorem reverse_any {A : Option Addr} {n c lo : Nat} {zs : List Int} {W : World} (hO : Own W lo 3 A n c (ints .i64 zs)) (hn : n ≤ 16777216) : Calls Tryd.prog 51 #[.slice A n c] W fun e W' => e = .returned (.tuple #[]) ∧ Own W' lo 3 A n c (ints .i64 zs.reverse) ∧ Below lo W W' := by
  have hl := hO.has.len
  have HL := Lib.hid hl
  rw [← turned_zero zs] at hO
  clear hl
  go_enter Tryd.func51, Tryd.ntmps51
  go_wp2
  go_loopw [2, 3] (fun s t wr => ∃ k : Nat, 2 * k ≤ n ∧ s = .int .i64 (k : Int) ∧ t = .int .i64 ((n : Int) - 1 - (k : Int)) ∧ Own wr lo 3 A n c (ints .i64 (turned zs k)) ∧ Below lo W wr) (fun s _ _ => n - (intOf s).toNat)
  case atStart => exact ⟨0, by omega, rfl, by simp, hO, Below.refl _ _⟩
  case round =>
    obtain ⟨k, hk, rfl, rfl, O, B⟩ := hrel
    have hge := B.size
    by_cases hlt : 2 * k + 1 < n
    · have hltB : decide ((k : Int) < (n : Int) - 1 - (k : Int)) = true := by simp; omega
      obtain ⟨g, rfl, hg1, hg2⟩ := O.head (show 0 < n by omega)
      have hm := turned_mid zs (k := k) (by have := HL.out; omega)
      have hst := turned_step zs (k := k) (by have := HL.out; omega)
      rw [HL.out] at hm hst
      obtain ⟨x, hx⟩ : ∃ x, zs.getD k 0 = x := ⟨_, rfl⟩
      obtain ⟨y, hy⟩ : ∃ y, zs.getD (n - 1 - k) 0 = y := ⟨_, rfl⟩
      rw [hx, hy] at hm hst
      obtain ⟨u1, hu1, c1, f1⟩ := O.at_ (show k < n by omega)
      obtain ⟨u2, hu2, c2, f2⟩ := O.at_ (show n - 1 - k < n by omega)
      obtain rfl : u1 = .int .i64 x := by unfold ints at hu1; rw [List.getElem?_map, hm.1] at hu1; injection hu1 with e; exact e.symm
      obtain rfl : u2 = .int .i64 y := by unfold ints at hu2; rw [List.getElem?_map, hm.2] at hu2; injection hu2 with e; exact e.symm
      have O1 := O.set_ k (.int .i64 y)
      obtain ⟨u3, hu3, c3, f3⟩ := O1.at_ (show n - 1 - k < n by omega)
      have O2 := O1.set_ (n - 1 - k) (.int .i64 x)
      rw [ints_set, ints_set, hst] at O2
      have n1 : ((n : Int) - 1 - (k : Int)).toNat = n - 1 - k := by omega
      have p0 : (0 : Int) ≤ (n : Int) - 1 - (k : Int) := by omega
      have p1 : (n : Int) - 1 - (k : Int) < (n : Int) := by omega
      have p2 : (k : Int) < (n : Int) := by omega
      have p3 : (0 : Int) ≤ (k : Int) := by omega
      have t1 : IntKind.i64.wrap ((n : Int) - 1 - (k : Int) - 1) = (n : Int) - 1 - ((k + 1 : Nat) : Int) := by rw [show (n : Int) - 1 - (k : Int) - 1 = (n : Int) - 1 - ((k + 1 : Nat) : Int) by omega]; exact IntWalk.i64_in _ (by omega)
      have B2 := (B.setCell (p := ⟨g, k, none⟩) hg1 (.int .i64 y)).setCell (p := ⟨g, n - 1 - k, none⟩) hg1 (.int .i64 x)
      have HB := Lib.hid B2
      have HO := Lib.hid O2
      clear hm hst hx hy hu1 hu2 hu3 O1 O2 B2
      generalize n - 1 - k = j at *
      go_wp2
      go_region
      all_goals
        have O3 := World.ownsRow.drew HO.out
        have B3 := HB.out.drew
        go_wp2
        go_roundw
        case rel => exact ⟨k + 1, by omega, by go_num, by first | rfl | (congr 1; omega) | go_num, O3, B3⟩
        case measure => simp [intOf]; omega
    · have hltB : decide ((k : Int) < (n : Int) - 1 - (k : Int)) = false := by simp; omega
      have HE := Lib.hid (turned_all zs (k := k) (by have := HL.out; omega))
      go_wp2
      refine bodyPost_end (results_none rfl _ _ _) rfl ?_
      exact ⟨rfl, by rw [← HE.out]; exact O, B⟩
end Go.Proofs.YthcfjnedpffbbaaDoor
