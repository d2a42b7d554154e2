/-
  Chapter 16's program, RouteYX: what is proved here is what it returns, and that it writes nothing that was there. No condition.
-/
import Derived.Test.YthcfjnedpffbbaaDoorImp16d
import Derived.Test.YthcfjnedpffbbaaDoorImp16e
namespace Go.Proofs.YthcfjnedpffbbaaDoor
open Go.RowKit

set_option maxHeartbeats 4000000 in
theorem implRouteYX_any (w h a b : Int) (W : World) : Calls Tryd.prog 17 #[.int .i64 w, .int .i64 h, .int .i64 a, .int .i64 b] W fun e W' => ∃ A' n' c', e = .returned (.slice A' n' c') ∧ Own W' W.heap.size 3 A' n' c' (ints .i64 (routeYX w h a b)) ∧ Below W.heap.size W W' := by
  have C1 := Lib.hid (implRouteXY_any w h b a W)
  have HR := Lib.hid (route_rev w h a b)
  have HLN := Lib.hid (routeXY_len w h b a).1
  go_enter Tryd.func17, Tryd.ntmps17
  go_wp2_with (fail)
  refine C1.out.mono ?_
  rintro e w1 ⟨A1, n1, c1, rfl, O1, B1⟩
  have hl := O1.has.len
  have hn : n1 ≤ 16777216 := by have := HLN.out; omega
  have C2 := Lib.hid (reverse_any O1 hn)
  clear hl
  go_wp2_with (fail)
  refine C2.out.mono ?_
  rintro e w2 ⟨rfl, O2, B2⟩
  rw [HR.out] at O2
  go_wp2
  go_ret
  exact ⟨_, _, _, rfl, O2, B1.trans B2⟩
end Go.Proofs.YthcfjnedpffbbaaDoor
