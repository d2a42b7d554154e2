/-
  Chapter 1's draw of two slices: what is proved here is which bytes are drawn, and that nothing that was there is written. No condition.
-/
import Derived.Test.YtofbjpcmiohhpaaDraw1
import Derived.Test.YtofbjpcmiohhpaaDist
namespace Go.Proofs.Ytofbjpcmiohhpaa
open Go.RowKit

theorem U8s.set_ {zs : List Int} {z : Int} {k : Nat} (h : U8s zs) (hz : 0 ≤ z ∧ z ≤ 255) : U8s (zs.set k z) := by
  intro y hy
  rcases List.mem_or_eq_of_mem_set hy with hy | rfl
  · exact h y hy
  · exact hz
theorem pow8_bound (m : Nat) (h : m ≤ 7) : 0 ≤ (2 : Int) ^ m ∧ (2 : Int) ^ m ≤ 255 := by
  have h1 : ∀ k : Fin 8, 0 ≤ (2 : Int) ^ k.val ∧ (2 : Int) ^ k.val ≤ 255 := by decide
  exact h1 ⟨m, by omega⟩
theorem flip_u8s {zs : List Int} {z : Int} {i : Nat} (h : U8s zs) (hx : zs[i / 8]? = some z) : U8s (zs.set (i / 8) (xor8 z (2 ^ (7 - i % 8)))) :=
  h.set_ (xor8_bound _ _ (h z (List.mem_of_getElem? hx)) (pow8_bound _ (by omega)))

/-- What is drawn: two slices of bytes. -/
def TwoB (w w' : World) (e : Ending) : Prop := ∃ A1 n1 c1 xs A2 n2 c2 ys, e = .returned (.tuple #[.slice A1 n1 c1, .slice A2 n2 c2]) ∧ Own w' w.heap.size 5 A1 n1 c1 (ints .u8 xs) ∧ U8s xs ∧ n1 ≤ 601 ∧ Own w' w.heap.size 5 A2 n2 c2 (ints .u8 ys) ∧ U8s ys ∧ n2 ≤ 602 ∧ Below w.heap.size w w'

set_option maxHeartbeats 4000000 in
theorem drawDistance_any {A : Option Addr} {n c : Nat} {zs : List Int} {w : World} (h : Has w A n (ints .u8 zs)) (hu : U8s zs) (hc : n ≤ c ∧ c ≤ maxLen) :
    Calls Try.prog 25 #[.slice A n c] w fun e w' => TwoB w w' e := by
  obtain ⟨i0, hi, hz0, hz1, hz2⟩ := info_parts Try.infoU8
  go_enter Try.func25, Try.ntmps25
  go_wp2_with (fail)
  refine (open_any h hu hc).mono ?_
  rintro e w1 ⟨r, rfl, R1, B1⟩
  have hrl := R1.lt
  go_wp2_with (fail)
  refine (l1Draw_any R1 (by omega)).mono ?_
  rintro e w2 ⟨A2, n2, c2, xs, p2, rfl, O2, hx, hn2, _, hp2, R2, G2⟩
  have s2 := G2.size
  go_wp2_with (fail)
  refine (l1Some_any (n := n2) R2 (by omega) (by omega)).mono ?_
  rintro e w3 ⟨A3, c3, ys, rfl, O3, hy, R3, G3⟩
  have OA := O2.past hrl G3
  have GB := gr_trans G2 G3
  have s3 := G3.size
  have OB := O3
  have HA := O2.lt
  have hrl2 : r < w2.heap.size := by omega
  obtain ⟨p3, hp3, R3'⟩ : ∃ q, q ≤ 5000 ∧ Rd w3 w.heap.size r q := ⟨_, by omega, R3⟩
  replace s3 : w2.heap.size ≤ w3.heap.size := G3.size
  clear O2 O3 G2 R2 R3
  have S := G3.size
  clear G3 s3
  by_cases hn0 : n2 = 0
  rotate_left
  have hnB : decide ((0 : Int) < (n2 : Int)) = true := by simp; omega
  go_wp2_with (fail)
  refine (pick_any R3' (by omega) (by omega)).mono ?_
  rintro e w4 ⟨u, rfl, hu4, R4, G4⟩
  clear hu4
  replace OA := OA.past hrl G4
  replace OB := OB.past hrl2 G4
  replace GB := gr_trans GB G4
  replace S := Nat.le_trans S G4.size
  clear R3' G4
  by_cases hu0 : u = 0
  subst hu0
  go_wp2_with (fail)
  refine (pick_any R4 (by omega) (by omega)).mono ?_
  rintro e w5 ⟨q, rfl, hq, R5, G5⟩
  obtain ⟨q0, q1⟩ := hq
  obtain ⟨j, rfl⟩ := Int.eq_ofNat_of_zero_le q0
  have hj : j < 8 * n2 := by omega
  clear q1 q0
  replace OA := OA.past hrl G5
  replace GB := gr_trans GB G5
  replace S := Nat.le_trans S G5.size
  clear OB R4 G5
  go_wp2_with (fail)
  refine (l1Flip_any (i := j) OA.has hx (by omega) hj).mono ?_
  rintro e w6 ⟨A6, c6, z, rfl, hz, O6, B6⟩
  replace OA := OA.bel B6
  have OB := O6.mono S
  have hy6 := flip_u8s hx hz
  have R3' := R5.bel B6
  have HZ := Lib.hid hz
  replace GB := gr_bel GB B6
  replace S := Nat.le_trans S B6.size
  obtain ⟨p6, hp6, R6⟩ : ∃ q, q ≤ 5100 ∧ Rd w6 w.heap.size r q := ⟨_, by omega, R3'⟩
  clear O6 B6 R5 R3' hz
  go_wp2_with (fail)
  refine (pick_any R6 (by omega) (by omega)).mono ?_
  rotate_left
  have hu1 : (u == 0) = false := by simp [hu0]
  have hy6 := hy
  obtain ⟨p6, hp6, R6⟩ : ∃ q, q ≤ 5100 ∧ Rd w4 w.heap.size r q := ⟨_, by omega, R4⟩
  clear R4
  go_wp2_with (fail)
  refine (pick_any R6 (by omega) (by omega)).mono ?_
  rotate_left
  subst hn0
  have hy6 := hy
  have R6 := R3'
  clear R3'
  go_wp2_with (fail)
  refine (pick_any R6 (by omega) (by omega)).mono ?_
  all_goals
    rintro e w7 ⟨u7, rfl, hu7, R7, G7⟩
    clear hu7
    replace OA := OA.past hrl G7
    replace OB := OB.past hrl2 G7
    replace GB := gr_trans GB G7
    replace S := Nat.le_trans S G7.size
    clear R6 G7
    by_cases hu8 : u7 = 0
    · subst hu8
      go_wp2_with (at_builtin; refine wpList_apps _ rfl (.tmp 33) (.tmp 34) 22 rfl w2.heap.size 5 i0 (.int .u8 0) 1 Try.underlying22 hi hz0 hz1 hz2 rfl _ _ _ _ rfl OB 1 1 #[.int .u8 0] rfl rfl (by simp [Value.oneCell']) (by decide) (by omega) (by decide) (by omega) ?_; intro g cap w9 O9 G9 B9 hat)
      have OA9 := OA.earlier (z := w2) HA (OB.ge (Nat.le_refl _)) G9
      have GB9 := gr_new GB G9 (fun k hk => by have := own_ge OB k hk; omega)
      go_wp2
      go_ret2
      unfold TwoB
      exact ⟨_, _, _, xs, _, _, _, _, rfl, OA9.mono B1.size, hx, hn2, (by rw [ints_app]; exact O9.mono (Nat.le_trans B1.size s2)), hy6.snoc (by omega) (by omega), by omega, bel_read B1 R1 GB9⟩
    · have hu9 : (u7 == 0) = false := by simp [hu8]
      go_wp2
      go_ret2
      unfold TwoB
      exact ⟨_, _, _, xs, _, _, _, _, rfl, OA.mono B1.size, hx, hn2, OB.mono (Nat.le_trans B1.size s2), hy6, by omega, bel_read B1 R1 GB⟩
end Go.Proofs.Ytofbjpcmiohhpaa
