/-
  Chapter 16's draws, the numbers: what is proved here is that a fabric's size and two nodes are drawn, within bounds, and that nothing that was there is written. No condition.
-/
import Derived.Test.YthcfjnedpffbbaaDoorMathFab
import Derived.Test.YthcfjnedpffbbaaDoorDraw1
import Derived.Test.YthcfjnedpffbbaaDoorFabA
namespace Go.Proofs.YthcfjnedpffbbaaDoor
open Go.RowKit

theorem results_tmp4F {fn : Func} {t u v x : Tmp} (h : fn.results = #[.tmp t, .tmp u, .tmp v, .tmp x]) (tmps : Array Value) (P : Program) (w : World) :
    (results fn tmps).run P w = .ok (.tuple #[tmps.getD t undef, tmps.getD u undef, tmps.getD v undef, tmps.getD x undef]) w := by
  simp [results, h]
set_option maxRecDepth 100000 in
set_option maxHeartbeats 4000000 in
theorem l16Size_any {lo r p : Nat} {w : World} (h : Rd w lo r p) (hp : p ≤ 274877906944) :
    Calls Tryd.prog 58 #[.pointer (some ⟨r, 0, none⟩)] w fun e w' => ∃ (a b : Int) (p' : Nat), e = .returned (.tuple #[.int .i64 a, .int .i64 b]) ∧ (0 ≤ a ∧ a ≤ 6) ∧ (0 ≤ b ∧ b ≤ 6) ∧ p' ≤ p + 10 ∧ Rd w' lo r p' ∧ w.grownBy w' (some r) := by
  have hrl := h.lt
  go_enter Tryd.func58, Tryd.ntmps58
  go_wp2_with (fail)
  refine (pick_any h (by omega) (by omega)).mono ?_
  rintro e w1 ⟨u, rfl, hu, R1, G1⟩
  clear hu
  by_cases h0 : u = 0
  · subst h0
    go_wp2_with (fail)
    refine (num_any (n := 3) (l := [0, 6, 3]) (R1.alloc _) (by omega) (Has.row #[.int .i64 0, .int .i64 6, .int .i64 3] rfl rfl (by unfold maxLen; omega)) (fun ad ha => by injection ha with ha; subst ha; have := R1.lt; simp; omega) (by omega) (by omega)).mono ?_
    rintro e w2 ⟨a, rfl, hv, R2, G2⟩
    have G02 := gr_trans G1 (gr_alloc G2)
    have ha : 0 ≤ a ∧ a ≤ 6 := by simp at hv; omega
    clear hv G2 G1 R1
    go_wp2_with (fail)
    refine (num_any (n := 3) (l := [0, 6, 2]) (R2.alloc _) (by omega) (Has.row #[.int .i64 0, .int .i64 6, .int .i64 2] rfl rfl (by unfold maxLen; omega)) (fun ad ha => by injection ha with ha; subst ha; have := R2.lt; simp; omega) (by omega) (by omega)).mono ?_
    rintro e w3 ⟨b, rfl, hv, R3, G3⟩
    have G03 := gr_trans G02 (gr_alloc G3)
    have hb : 0 ≤ b ∧ b ≤ 6 := by simp at hv; omega
    clear hv G3 G02 R2
    go_wp2
    go_ret2
    exact ⟨a, b, _, rfl, ha, hb, by omega, R3, G03⟩
  · have h0b : (u == 0) = false := by simp [h0]
    go_wp2_with (fail)
    refine (num_any (n := 5) (l := [3, 2, 4, 5, 1]) (R1.alloc _) (by omega) (Has.row #[.int .i64 3, .int .i64 2, .int .i64 4, .int .i64 5, .int .i64 1] rfl rfl (by unfold maxLen; omega)) (fun ad ha => by injection ha with ha; subst ha; have := R1.lt; simp; omega) (by omega) (by omega)).mono ?_
    rintro e w2 ⟨a, rfl, hv, R2, G2⟩
    have G02 := gr_trans G1 (gr_alloc G2)
    have ha : 0 ≤ a ∧ a ≤ 6 := by simp at hv; omega
    clear hv G2 G1 R1
    go_wp2_with (fail)
    refine (num_any (n := 5) (l := [3, 2, 2, 5, 1]) (R2.alloc _) (by omega) (Has.row #[.int .i64 3, .int .i64 2, .int .i64 2, .int .i64 5, .int .i64 1] rfl rfl (by unfold maxLen; omega)) (fun ad ha => by injection ha with ha; subst ha; have := R2.lt; simp; omega) (by omega) (by omega)).mono ?_
    rintro e w3 ⟨b, rfl, hv, R3, G3⟩
    have G03 := gr_trans G02 (gr_alloc G3)
    have hb : 0 ≤ b ∧ b ≤ 6 := by simp at hv; omega
    clear hv G3 G02 R2
    go_wp2
    go_ret2
    exact ⟨a, b, _, rfl, ha, hb, by omega, R3, G03⟩
theorem mul6 {a b : Int} (ha : 0 ≤ a ∧ a ≤ 6) (hb : 0 ≤ b ∧ b ≤ 6) : ∃ m : Int, a * b = m ∧ 0 ≤ m ∧ m ≤ 36 := by
  refine ⟨a * b, rfl, Int.mul_nonneg ha.1 hb.1, ?_⟩
  have := Int.mul_le_mul ha.2 hb.2 hb.1 (by omega)
  omega
/-- Four numbers as l16Two draws them. -/
def TwoN (w w' : World) (e : Ending) : Prop := ∃ (a b c d : Int), e = .returned (.tuple #[.int .i64 a, .int .i64 b, .int .i64 c, .int .i64 d]) ∧ (0 ≤ a ∧ a ≤ 6) ∧ (0 ≤ b ∧ b ≤ 6) ∧ (-10 ≤ c ∧ c ≤ 60) ∧ (-10 ≤ d ∧ d ≤ 60) ∧ Below w.heap.size w w'
/-- Four numbers as the draws give them. -/
def TwoD (w w' : World) (e : Ending) : Prop := ∃ (a b c d : Int), e = .returned (.tuple #[.int .i64 a, .int .i64 b, .int .i64 c, .int .i64 d]) ∧ (0 ≤ a ∧ a ≤ 6) ∧ (0 ≤ b ∧ b ≤ 6) ∧ (-20 ≤ c ∧ c ≤ 70) ∧ (-20 ≤ d ∧ d ≤ 70) ∧ Below w.heap.size w w'
set_option maxRecDepth 100000 in
set_option maxHeartbeats 4000000 in
theorem l16Two_any {A : Option Addr} {n c : Nat} {zs : List Int} {w : World} (h : Has w A n (ints .u8 zs)) (hu : U8s zs) (hc : n ≤ c ∧ c ≤ maxLen) :
    Calls Tryd.prog 47 #[.slice A n c] w fun e w' => TwoN w w' e := by
  go_enter Tryd.func47, Tryd.ntmps47
  go_wp2_with (fail)
  refine (open_any h hu hc).mono ?_
  rintro e w1 ⟨r, rfl, R1, B1⟩
  go_wp2_with (fail)
  refine (l16Size_any R1 (by omega)).mono ?_
  rintro e w2 ⟨a, b, p2, rfl, ha, hb, hp2, R2, G2⟩
  have B2 := bel_read B1 R1 G2
  obtain ⟨m, hm, m0, m1⟩ := mul6 ha hb
  obtain ⟨ha0, ha1⟩ := ha
  obtain ⟨hb0, hb1⟩ := hb
  clear R1 G2 B1
  go_wp2_with (fail)
  refine (pick_any R2 (by omega) (by omega)).mono ?_
  rintro e w3 ⟨u, rfl, hu, R3, G3⟩
  have B3 := bel_read B2 R2 G3
  have hub : 0 ≤ u ∧ u ≤ 38 := by unfold Picked at hu; omega
  obtain ⟨hu0, hu1⟩ := hub
  clear hu R2 G3 B2
  go_wp2_with (fail)
  refine (pick_any R3 (by omega) (by omega)).mono ?_
  rintro e w4 ⟨v, rfl, hv, R4, G4⟩
  have B4 := bel_read B3 R3 G4
  have hvb : 0 ≤ v ∧ v ≤ 9 := by unfold Picked at hv; omega
  obtain ⟨hv0, hv1⟩ := hvb
  have t1 : v.tdiv 8 = v / 8 := Int.tdiv_eq_ediv_of_nonneg hv0
  obtain ⟨x, hx⟩ : ∃ x, v / 8 = x := ⟨_, rfl⟩
  have hx2 : 0 ≤ x ∧ x ≤ 1 := by omega
  obtain ⟨hx0, hx1⟩ := hx2
  clear hv R3 G4 B3
  go_wp2_with (fail)
  refine (pick_any R4 (by omega) (by omega)).mono ?_
  rintro e w5 ⟨z, rfl, hz, R5, G5⟩
  have B5 := bel_read B4 R4 G5
  have hzb : 0 ≤ z ∧ z ≤ 37 := by unfold Picked at hz; omega
  clear hz R4 G5 B4 t1
  go_wp2
  refine bodyPost_ret (results_tmp4F rfl _ _ _) rfl ?_
  exact ⟨a, b, _, z, rfl, ⟨ha0, ha1⟩, ⟨hb0, hb1⟩, by omega, by omega, B5⟩
set_option maxHeartbeats 4000000 in
theorem drawRouteXY_any {A : Option Addr} {n c : Nat} {zs : List Int} {w : World} (h : Has w A n (ints .u8 zs)) (hu : U8s zs) (hc : n ≤ c ∧ c ≤ maxLen) :
    Calls Tryd.prog 15 #[.slice A n c] w fun e w' => TwoD w w' e := by
  go_enter Tryd.func15, Tryd.ntmps15
  go_wp2_with (fail)
  refine (l16Two_any h hu hc).mono ?_
  rintro e w1 ⟨a, b, x, y, rfl, ha, hb, hx, hy, B⟩
  go_wp2
  refine bodyPost_ret (results_tmp4F rfl _ _ _) rfl ?_
  exact ⟨a, b, x, y, rfl, ha, hb, by omega, by omega, B⟩
set_option maxRecDepth 100000 in
set_option maxHeartbeats 4000000 in
theorem drawWireOf_any {A : Option Addr} {n c : Nat} {zs : List Int} {w : World} (h : Has w A n (ints .u8 zs)) (hu : U8s zs) (hc : n ≤ c ∧ c ≤ maxLen) :
    Calls Tryd.prog 22 #[.slice A n c] w fun e w' => TwoD w w' e := by
  have hcm := hc.2
  unfold maxLen at hcm
  have hn0 : n ≤ 9223372036854775807 := by omega
  have C := Lib.hid (l16Two_any h hu hc)
  clear h hu hc hcm
  go_enter Tryd.func22, Tryd.ntmps22
  go_wp2_with (fail)
  refine C.out.mono ?_
  rintro e w1 ⟨a, b, x, y, rfl, ha, hb, hx, hy, B⟩
  obtain ⟨a0, a1⟩ := ha
  obtain ⟨b0, b1⟩ := hb
  obtain ⟨x0, x1⟩ := hx
  obtain ⟨y0, y1⟩ := hy
  by_cases hodd : n % 2 = 0
  rotate_left
  · have q1 : ((n : Int) % 2 == 0) = false := by simp; omega
    go_wp2
    refine bodyPost_ret (results_tmp4F rfl _ _ _) rfl ?_
    exact ⟨a, b, x, y, rfl, ⟨a0, a1⟩, ⟨b0, b1⟩, by omega, by omega, B⟩
  have q1 : ((n : Int) % 2 == 0) = true := by simp; omega
  by_cases hy : y < 0
  · obtain ⟨K, hK⟩ : ∃ K, (n : Int) / 2 % 4 = K := ⟨_, rfl⟩
    have hK4 : K = 0 ∨ K = 1 ∨ K = 2 ∨ K = 3 := by omega
    rcases hK4 with rfl | rfl | rfl | rfl
    all_goals
      go_wp2
      go_region
      all_goals
        have BB := (B.alloc B.size (.cells #[Value.int .i64 1, Value.int .i64 (-1), Value.int .i64 a, Value.int .i64 (-a)] 3)).drew
        go_wp2
        refine bodyPost_ret (results_tmp4F rfl _ _ _) rfl ?_
        first
        | exact ⟨a, b, x, x + 1, rfl, ⟨a0, a1⟩, ⟨b0, b1⟩, by omega, by omega, BB⟩
        | exact ⟨a, b, x, x + -1, rfl, ⟨a0, a1⟩, ⟨b0, b1⟩, by omega, by omega, BB⟩
        | exact ⟨a, b, x, x - 1, rfl, ⟨a0, a1⟩, ⟨b0, b1⟩, by omega, by omega, BB⟩
        | exact ⟨a, b, x, x + a, rfl, ⟨a0, a1⟩, ⟨b0, b1⟩, by omega, by omega, BB⟩
        | exact ⟨a, b, x, x + -a, rfl, ⟨a0, a1⟩, ⟨b0, b1⟩, by omega, by omega, BB⟩
        | exact ⟨a, b, x, x - a, rfl, ⟨a0, a1⟩, ⟨b0, b1⟩, by omega, by omega, BB⟩
  · obtain ⟨K, hK⟩ : ∃ K, ((n : Int) / 2 + y) % 4 = K := ⟨_, rfl⟩
    have hK4 : K = 0 ∨ K = 1 ∨ K = 2 ∨ K = 3 := by omega
    rcases hK4 with rfl | rfl | rfl | rfl
    all_goals
      go_wp2
      go_region
      all_goals
        have BB := (B.alloc B.size (.cells #[Value.int .i64 1, Value.int .i64 (-1), Value.int .i64 a, Value.int .i64 (-a)] 3)).drew
        go_wp2
        refine bodyPost_ret (results_tmp4F rfl _ _ _) rfl ?_
        first
        | exact ⟨a, b, x, x + 1, rfl, ⟨a0, a1⟩, ⟨b0, b1⟩, by omega, by omega, BB⟩
        | exact ⟨a, b, x, x + -1, rfl, ⟨a0, a1⟩, ⟨b0, b1⟩, by omega, by omega, BB⟩
        | exact ⟨a, b, x, x - 1, rfl, ⟨a0, a1⟩, ⟨b0, b1⟩, by omega, by omega, BB⟩
        | exact ⟨a, b, x, x + a, rfl, ⟨a0, a1⟩, ⟨b0, b1⟩, by omega, by omega, BB⟩
        | exact ⟨a, b, x, x + -a, rfl, ⟨a0, a1⟩, ⟨b0, b1⟩, by omega, by omega, BB⟩
        | exact ⟨a, b, x, x - a, rfl, ⟨a0, a1⟩, ⟨b0, b1⟩, by omega, by omega, BB⟩
end Go.Proofs.YthcfjnedpffbbaaDoor
