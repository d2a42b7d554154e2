/-
  Chapter 8's functions of the model and of the program, in one form: what is proved here is what they return, and that they write nothing that was there. Condition: lengths up to 2^24.
-/
import Derived.Test.YtbeebaiionlcoaaImp8g
import Derived.Test.YtbeebaiionlcoaaShut
namespace Go.Proofs.Ytbeebaiionlcoaa
open Go.RowKit

theorem runs_le {w : World} {A : Option Addr} {n : Nat} {zs : List Int} (h : Has w A n (ints .i64 zs)) : (runsL zs).length ≤ n := by
  rw [runsL_len]; have := rle_le zs; have := h.len; omega
theorem bitsFromL_len (zs : List Int) : (bitsFromL zs).1.length ≤ 200 := by
  cases hb : bitsFromL zs with
  | mk o b =>
    cases b with
    | true => exact (levels_bitsFrom hb).2.2.2
    | false => rw [bitsFromL_false hb]; simp
theorem readLineL_len (ts : List Int) (wd : Int) : (readLineL ts wd).1.length ≤ 200 := by
  unfold readLineL; split
  · exact bitsFromL_len _
  · simp
theorem specLevelsOf_any {A : Option Addr} {n c : Nat} {zs : List Int} {w : World} (h : Has w A n (ints .i64 zs)) (_ : I64s zs) (hn : n ≤ 16777216) :
    Calls Try.prog 19 #[.slice A n c] w fun e w' => ∃ A' n' c', e = .returned (.slice A' n' c') ∧ Own w' w.heap.size 3 A' n' c' (ints .i64 (levelsL zs)) ∧ Below w.heap.size w w' := specLevelsOf_w h hn
theorem specBitsFrom_any {A : Option Addr} {n c : Nat} {zs : List Int} {w : World} (h : Has w A n (ints .i64 zs)) (_ : I64s zs) (hn : n ≤ 16777216) :
    Calls Try.prog 22 #[.slice A n c] w fun e w' => ∃ A' n' c', e = .returned (.tuple #[.slice A' n' c', .bool (bitsFromL zs).2]) ∧ Own w' w.heap.size 3 A' n' c' (ints .i64 (bitsFromL zs).1) ∧ Below w.heap.size w w' := specBitsFrom_w h hn
theorem specTicksOf_any {A : Option Addr} {n c : Nat} {zs : List Int} {A2 : Option Addr} {n2 c2 : Nat} {ys : List Int} {w : World} (h : Has w A n (ints .i64 zs)) (_ : I64s zs) (hn : n ≤ 16777216) (h2 : Has w A2 n2 (ints .i64 ys)) (_ : I64s ys) (hn2 : n2 ≤ 16777216) :
    Calls Try.prog 28 #[.slice A n c, .slice A2 n2 c2] w fun e w' => ∃ A' n' c', e = .returned (.slice A' n' c') ∧ Own w' w.heap.size 3 A' n' c' (ints .i64 (ticksL zs ys)) ∧ Below w.heap.size w w' := specTicksOf_w h h2 hn hn2
theorem specRunsOf_any {A : Option Addr} {n c : Nat} {zs : List Int} {w : World} (h : Has w A n (ints .i64 zs)) (_ : I64s zs) (hn : n ≤ 16777216) :
    Calls Try.prog 25 #[.slice A n c] w fun e w' => ∃ A' n' c', e = .returned (.slice A' n' c') ∧ Own w' w.heap.size 3 A' n' c' (ints .i64 (runsL zs)) ∧ Below w.heap.size w w' := specRunsOf_w h hn
theorem specLevelsFrom_any {A : Option Addr} {n c : Nat} {zs : List Int} {wd : Int} {w : World} (h : Has w A n (ints .i64 zs)) (_ : I64s zs) (hn : n ≤ 16777216) (_ : (-9223372036854775808 ≤ wd ∧ wd ≤ 9223372036854775807)) :
    Calls Try.prog 32 #[.slice A n c, .int .i64 wd] w fun e w' => ∃ A' n' c', e = .returned (.tuple #[.slice A' n' c', .bool (levelsFromL zs wd).2]) ∧ Own w' w.heap.size 3 A' n' c' (ints .i64 (levelsFromL zs wd).1) ∧ Below w.heap.size w w' := specLevelsFrom_w h hn
theorem specReadLine_any {A : Option Addr} {n c : Nat} {zs : List Int} {wd : Int} {w : World} (h : Has w A n (ints .i64 zs)) (_ : I64s zs) (hn : n ≤ 16777216) (_ : (-9223372036854775808 ≤ wd ∧ wd ≤ 9223372036854775807)) :
    Calls Try.prog 34 #[.slice A n c, .int .i64 wd] w fun e w' => ∃ A' n' c', e = .returned (.tuple #[.slice A' n' c', .bool (readLineL zs wd).2]) ∧ Own w' w.heap.size 3 A' n' c' (ints .i64 (readLineL zs wd).1) ∧ Below w.heap.size w w' := specReadLine_w h hn
theorem implLevelsOf_any {A : Option Addr} {n c : Nat} {zs : List Int} {w : World} (h : Has w A n (ints .i64 zs)) (_ : I64s zs) (hn : n ≤ 16777216) :
    Calls Try.prog 17 #[.slice A n c] w fun e w' => ∃ A' n' c', e = .returned (.slice A' n' c') ∧ Own w' w.heap.size 3 A' n' c' (ints .i64 (levelsL zs)) ∧ Below w.heap.size w w' := implLevelsOf_w h hn
theorem implBitsFrom_any {A : Option Addr} {n c : Nat} {zs : List Int} {w : World} (h : Has w A n (ints .i64 zs)) (_ : I64s zs) (hn : n ≤ 16777216) :
    Calls Try.prog 20 #[.slice A n c] w fun e w' => ∃ A' n' c', e = .returned (.tuple #[.slice A' n' c', .bool (bitsFromL zs).2]) ∧ Own w' w.heap.size 3 A' n' c' (ints .i64 (bitsFromL zs).1) ∧ Below w.heap.size w w' := implBitsFrom_w h hn
theorem implTicksOf_any {A : Option Addr} {n c : Nat} {zs : List Int} {A2 : Option Addr} {n2 c2 : Nat} {ys : List Int} {w : World} (h : Has w A n (ints .i64 zs)) (_ : I64s zs) (hn : n ≤ 16777216) (h2 : Has w A2 n2 (ints .i64 ys)) (_ : I64s ys) (hn2 : n2 ≤ 16777216) :
    Calls Try.prog 27 #[.slice A n c, .slice A2 n2 c2] w fun e w' => ∃ A' n' c', e = .returned (.slice A' n' c') ∧ Own w' w.heap.size 3 A' n' c' (ints .i64 (ticksL zs ys)) ∧ Below w.heap.size w w' := implTicksOf_w h h2 hn hn2
theorem implRunsOf_any {A : Option Addr} {n c : Nat} {zs : List Int} {w : World} (h : Has w A n (ints .i64 zs)) (_ : I64s zs) (hn : n ≤ 16777216) :
    Calls Try.prog 24 #[.slice A n c] w fun e w' => ∃ A' n' c', e = .returned (.slice A' n' c') ∧ Own w' w.heap.size 3 A' n' c' (ints .i64 (runsL zs)) ∧ Below w.heap.size w w' := implRunsOf_w h hn
theorem implLevelsFrom_any {A : Option Addr} {n c : Nat} {zs : List Int} {wd : Int} {w : World} (h : Has w A n (ints .i64 zs)) (_ : I64s zs) (hn : n ≤ 16777216) (_ : (-9223372036854775808 ≤ wd ∧ wd ≤ 9223372036854775807)) :
    Calls Try.prog 31 #[.slice A n c, .int .i64 wd] w fun e w' => ∃ A' n' c', e = .returned (.tuple #[.slice A' n' c', .bool (levelsFromL zs wd).2]) ∧ Own w' w.heap.size 3 A' n' c' (ints .i64 (levelsFromL zs wd).1) ∧ Below w.heap.size w w' := implLevelsFrom_w h hn
theorem implReadLine_any {A : Option Addr} {n c : Nat} {zs : List Int} {wd : Int} {w : World} (h : Has w A n (ints .i64 zs)) (_ : I64s zs) (hn : n ≤ 16777216) (_ : (-9223372036854775808 ≤ wd ∧ wd ≤ 9223372036854775807)) :
    Calls Try.prog 29 #[.slice A n c, .int .i64 wd] w fun e w' => ∃ A' n' c', e = .returned (.tuple #[.slice A' n' c', .bool (readLineL zs wd).2]) ∧ Own w' w.heap.size 3 A' n' c' (ints .i64 (readLineL zs wd).1) ∧ Below w.heap.size w w' := implReadLine_w h hn
end Go.Proofs.Ytbeebaiionlcoaa
