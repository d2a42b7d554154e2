/-
  Chapter 12's program: what is proved here is that how far apart two classes may be is answered with no write at all. Condition: lengths up to 2^24.
-/
import Derived.Test.YtpofkkenbepjpaaImp12a
namespace Go.Proofs.Ytpofkkenbepjpaa
open Go.RowKit

set_option maxHeartbeats 4000000 in
theorem implApartBound_q {A : Option Addr} {n c : Nat} {ws : List Int} {a' b' : Nat} {r : Int} {w : World} (h : Has w A n (ints .i64 ws)) (hn : n ≤ 16777216) (hw : wtOk ws) (hla : a' < n) (hlb : b' < n) (hr : 9 * dw ws a' * dw ws b' + 8 * dw ws a' = r) :
    Calls Try.prog 23 #[.slice A n c, .int .i64 (a' : Int), .int .i64 (b' : Int)] w fun e w' => e = .returned (.int .i64 r) ∧ ∃ m, w' = w.drewN m := by
  have HL := Lib.hid h.len
  have HR := Lib.hid hr
  clear hr
  have C := Lib.hid (areWeights_b (c := c) h hn (decide_eq_true hw))
  have C1 := Lib.hid (isClass_yes (A := A) (n := n) (c := c) w (x := (a' : Int)) (by omega))
  have C2 := Lib.hid (isClass_yes (A := A) (n := n) (c := c) w (x := (b' : Int)) (by omega))
  have xa := dw_ok hw (c := a') (by have := HL.out; omega)
  have xb := dw_ok hw (c := b') (by have := HL.out; omega)
  obtain ⟨g, o, rfl, hbl, ca⟩ := has_dw h hla
  obtain ⟨g', o', hgo, _, cb⟩ := has_dw h hlb
  injection hgo with hgo
  injection hgo with e1 e2
  subst e1 e2
  generalize dw ws a' = x at ca xa HR
  generalize dw ws b' = y at cb xb HR
  have m1 : 1 ≤ x * y ∧ x * y ≤ 81 := ⟨by have := Int.mul_le_mul xa.1 xb.1 (by omega) (by omega); omega, by have := Int.mul_le_mul xa.2 xb.2 (by omega) (by omega); omega⟩
  have m2 : 9 * x * y = 9 * (x * y) := Int.mul_assoc 9 x y
  have w1 : IntKind.i64.wrap (9 * x) = 9 * x := IntWalk.i64_in _ (by omega)
  have w2 : IntKind.i64.wrap (9 * x * y) = 9 * x * y := IntWalk.i64_in _ (by omega)
  have w3 : IntKind.i64.wrap (8 * x) = 8 * x := IntWalk.i64_in _ (by omega)
  have w4 : IntKind.i64.wrap (9 * x * y + 8 * x) = 9 * x * y + 8 * x := IntWalk.i64_in _ (by omega)
  clear hw m1 m2
  go_enter Try.func23, Try.ntmps23
  go_wp2_with (fail)
  refine C.out.mono ?_
  rintro e w' ⟨rfl, rfl⟩
  go_wp2_with (fail)
  refine C1.out.mono ?_
  rintro e w' ⟨rfl, rfl⟩
  go_wp2_with (fail)
  refine C2.out.mono ?_
  rintro e w' ⟨rfl, rfl⟩
  go_wp2
  go_quiet (fail)
  go_wp2
  go_ret
  exact ⟨ret_int HR.out, _, rfl⟩
end Go.Proofs.Ytpofkkenbepjpaa
