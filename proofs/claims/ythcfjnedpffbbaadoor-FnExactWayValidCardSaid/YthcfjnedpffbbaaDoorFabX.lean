/-
  Chapter 16's contracts as the exact laws want them. No condition beyond those of the functions.
-/
import Derived.Test.YthcfjnedpffbbaaDoorFabB
import Derived.Test.YthcfjnedpffbbaaDoorImp16g
import Derived.Test.YthcfjnedpffbbaaDoorImp16f
namespace Go.Proofs.YthcfjnedpffbbaaDoor
open Go.RowKit

theorem specRouteXY_x {a b c d : Int} {w : World} (_ : -9223372036854775808 ≤ a ∧ a ≤ 9223372036854775807) (_ : -9223372036854775808 ≤ b ∧ b ≤ 9223372036854775807) (_ : -9223372036854775808 ≤ c ∧ c ≤ 9223372036854775807) (_ : -9223372036854775808 ≤ d ∧ d ≤ 9223372036854775807) :
    Calls Tryd.prog 19 #[.int .i64 a, .int .i64 b, .int .i64 c, .int .i64 d] w fun e w' => ∃ A' n' c', e = .returned (.slice A' n' c') ∧ Own w' w.heap.size 3 A' n' c' (ints .i64 (routeXY a b c d)) ∧ Below w.heap.size w w' := specRouteXY_any a b c d w
theorem implRouteXY_x {a b c d : Int} {w : World} (_ : -9223372036854775808 ≤ a ∧ a ≤ 9223372036854775807) (_ : -9223372036854775808 ≤ b ∧ b ≤ 9223372036854775807) (_ : -9223372036854775808 ≤ c ∧ c ≤ 9223372036854775807) (_ : -9223372036854775808 ≤ d ∧ d ≤ 9223372036854775807) :
    Calls Tryd.prog 16 #[.int .i64 a, .int .i64 b, .int .i64 c, .int .i64 d] w fun e w' => ∃ A' n' c', e = .returned (.slice A' n' c') ∧ Own w' w.heap.size 3 A' n' c' (ints .i64 (routeXY a b c d)) ∧ Below w.heap.size w w' := implRouteXY_any a b c d w
theorem specRouteYX_x {a b c d : Int} {w : World} (_ : -9223372036854775808 ≤ a ∧ a ≤ 9223372036854775807) (_ : -9223372036854775808 ≤ b ∧ b ≤ 9223372036854775807) (_ : -9223372036854775808 ≤ c ∧ c ≤ 9223372036854775807) (_ : -9223372036854775808 ≤ d ∧ d ≤ 9223372036854775807) :
    Calls Tryd.prog 20 #[.int .i64 a, .int .i64 b, .int .i64 c, .int .i64 d] w fun e w' => ∃ A' n' c', e = .returned (.slice A' n' c') ∧ Own w' w.heap.size 3 A' n' c' (ints .i64 (routeYX a b c d)) ∧ Below w.heap.size w w' := specRouteYX_any a b c d w
theorem implRouteYX_x {a b c d : Int} {w : World} (_ : -9223372036854775808 ≤ a ∧ a ≤ 9223372036854775807) (_ : -9223372036854775808 ≤ b ∧ b ≤ 9223372036854775807) (_ : -9223372036854775808 ≤ c ∧ c ≤ 9223372036854775807) (_ : -9223372036854775808 ≤ d ∧ d ≤ 9223372036854775807) :
    Calls Tryd.prog 17 #[.int .i64 a, .int .i64 b, .int .i64 c, .int .i64 d] w fun e w' => ∃ A' n' c', e = .returned (.slice A' n' c') ∧ Own w' w.heap.size 3 A' n' c' (ints .i64 (routeYX a b c d)) ∧ Below w.heap.size w w' := implRouteYX_any a b c d w
theorem specWireOf_x {a b c d : Int} {w : World} (_ : -9223372036854775808 ≤ a ∧ a ≤ 9223372036854775807) (_ : -9223372036854775808 ≤ b ∧ b ≤ 9223372036854775807) (_ : -9223372036854775808 ≤ c ∧ c ≤ 9223372036854775807) (_ : -9223372036854775808 ≤ d ∧ d ≤ 9223372036854775807) :
    Calls Tryd.prog 24 #[.int .i64 a, .int .i64 b, .int .i64 c, .int .i64 d] w fun e w' => e = .returned (.int .i64 (wireI a b c d)) ∧ Below w.heap.size w w' := (specWireOf_any a b c d w).mono fun _ _ hh => ⟨hh.1, hh.2 ▸ Below.refl _ _⟩
theorem implWireOf_x {a b c d : Int} {w : World} (hT : StepsIn w) (_ : -9223372036854775808 ≤ a ∧ a ≤ 9223372036854775807) (_ : -9223372036854775808 ≤ b ∧ b ≤ 9223372036854775807) (_ : -9223372036854775808 ≤ c ∧ c ≤ 9223372036854775807) (_ : -9223372036854775808 ≤ d ∧ d ≤ 9223372036854775807) :
    Calls Tryd.prog 23 #[.int .i64 a, .int .i64 b, .int .i64 c, .int .i64 d] w fun e w' => e = .returned (.int .i64 (wireI a b c d)) ∧ Below w.heap.size w w' := implWireOf_r hT rfl
theorem specWayValid_x {A : Option Addr} {n c : Nat} {zs : List Int} {a b : Int} {w : World} (_ : -9223372036854775808 ≤ a ∧ a ≤ 9223372036854775807) (_ : -9223372036854775808 ≤ b ∧ b ≤ 9223372036854775807) (h : Has w A n (ints .i64 zs)) (_ : I64s zs) (hn : n ≤ 16777216) :
    Calls Tryd.prog 26 #[.int .i64 a, .int .i64 b, .slice A n c] w fun e w' => e = .returned (.bool (decide (WayOk a b zs))) ∧ Below w.heap.size w w' := specWayValid_b h hn rfl
theorem implWayValid_x {A : Option Addr} {n c : Nat} {zs : List Int} {a b : Int} {w : World} (hT : StepsIn w) (_ : -9223372036854775808 ≤ a ∧ a ≤ 9223372036854775807) (_ : -9223372036854775808 ≤ b ∧ b ≤ 9223372036854775807) (h : Has w A n (ints .i64 zs)) (_ : I64s zs) (hn : n ≤ 16777216) :
    Calls Tryd.prog 21 #[.int .i64 a, .int .i64 b, .slice A n c] w fun e w' => e = .returned (.bool (decide (WayOk a b zs))) ∧ Below w.heap.size w w' := implWayValid_b hT h hn rfl
end Go.Proofs.YthcfjnedpffbbaaDoor
