/-
  Chapter 14's program, the search for the least burst: what is proved here is what sort.Search and LeastBurst return, and that they write nothing that was there. Condition: lengths up to 2^24.
-/
import Derived.Test.YtnloejcfakcpfaaImp14d
namespace Go.Proofs.Ytnloejcfakcpfaa
open Go.RowKit

/-- Where the two captured variables lie. -/
def CapAt (w : World) (B0 B1 : Nat) (r : Int) (A : Option Addr) (n c : Nat) : Prop := w.cell? ⟨B0, 0, none⟩ = some (.int .i64 r) ∧ w.cell? ⟨B1, 0, none⟩ = some (.slice A n c)
theorem CapAt.bel {w w' : World} {B0 B1 : Nat} {r : Int} {A : Option Addr} {n c : Nat} (h : CapAt w B0 B1 r A n c) (hb : Below w.heap.size w w') : CapAt w' B0 B1 r A n c :=
  ⟨(hb.cell (p := ⟨B0, 0, none⟩) (World.block_lt_of_cell? w _ h.1)).trans h.1, (hb.cell (p := ⟨B1, 0, none⟩) (World.block_lt_of_cell? w _ h.2)).trans h.2⟩
set_option maxHeartbeats 2000000 in
theorem less_b {A : Option Addr} {n c B0 B1 k : Nat} {r : Int} {hs : List Duo} {w : World} {v : Bool} (h : HasD w A n hs) (hc : CapAt w B0 B1 r A n c) (hn : n ≤ 16777216) (hk : k < 100) (hv : leastP r hs k = v) :
    Calls Try.prog 62 #[.int .i64 (k : Int), .pointer (some ⟨B0, 0, none⟩), .pointer (some ⟨B1, 0, none⟩)] w fun e w' => e = .returned (.bool v) ∧ Below w.heap.size w w' := by
  obtain ⟨c0, c1⟩ := hc
  have e1 : (1 : Int) + (k : Int) = (k : Int) + 1 := by omega
  have w1 : IntKind.i64.wrap ((1 : Int) + (k : Int)) = (k : Int) + 1 := by rw [e1]; exact IntWalk.i64_in _ (by omega)
  have w2 : IntKind.i64.wrap ((k : Int) + 1) = (k : Int) + 1 := IntWalk.i64_in _ (by omega)
  have C := Lib.hid (implConforms_b (c := c) (b := (k : Int) + 1) h hn hv)
  clear hv h
  go_enter Try.func62, Try.ntmps62
  go_wp2_with (fail)
  refine C.out.mono ?_
  rintro e w' ⟨rfl, B⟩
  go_wp2
  go_ret
  exact ⟨rfl, B⟩
set_option maxHeartbeats 4000000 in
theorem search_any {A : Option Addr} {n c B0 B1 : Nat} {r : Int} {hs : List Duo} {w : World} (h : HasD w A n hs) (hc : CapAt w B0 B1 r A n c) (hn : n ≤ 16777216) :
    Calls Try.prog 61 #[.int .i64 100, .func (.func 62) #[] #[.pointer (some ⟨B0, 0, none⟩), .pointer (some ⟨B1, 0, none⟩)]] w fun e w' => e = .returned (.int .i64 (leastN r hs : Int)) ∧ Below w.heap.size w w' := by
  have HC := Lib.hid hc
  have HLE := Lib.hid (leastN_le r hs)
  have HIF := Lib.hid (fun k (hk : k < 100) => least_iff (r := r) (hs := hs) (k := k) hk)
  go_enter Try.func61, Try.ntmps61
  go_wp2
  go_loopw [5, 6] (fun i j wr => ∃ (x y : Nat), i = .int .i64 (x : Int) ∧ j = .int .i64 (y : Int) ∧ x ≤ y ∧ y ≤ 100 ∧ Hid (x ≤ leastN r hs ∧ leastN r hs ≤ y) ∧ Below w.heap.size w wr) (fun i j _ => (intOf j).toNat - (intOf i).toNat)
  case atStart =>
    have h0 : Hid (0 ≤ leastN r hs ∧ leastN r hs ≤ 100) := ⟨Nat.zero_le _, HLE.out⟩
    exact ⟨0, 100, rfl, rfl, by omega, by omega, h0, Below.refl _ _⟩
  case round =>
    obtain ⟨x, y, rfl, rfl, hxy, hy, HXY, B⟩ := hrel
    by_cases hlt : x < y
    · have l1 : decide ((x : Int) < (y : Int)) = true := decide_eq_true (by omega)
      have l2 : decide (x < y) = true := decide_eq_true (by omega)
      obtain ⟨m, hm⟩ : ∃ m, (x + y) / 2 = m := ⟨_, rfl⟩
      have hmb : x ≤ m ∧ m < y := by omega
      obtain ⟨v, hv⟩ : ∃ v, leastP r hs m = v := ⟨_, rfl⟩
      have hv2 := HIF.out m (by omega)
      rw [hv] at hv2
      have C := Lib.hid (less_b (h.bel B) (HC.out.bel B) hn (by omega) hv)
      have w1 : IntKind.i64.wrap ((x : Int) + (y : Int)) = (x : Int) + (y : Int) := IntWalk.i64_in _ (by omega)
      have hmI : ((x : Int) + (y : Int)) / 2 = (m : Int) := by omega
      have w2 : IntKind.i64.wrap ((m : Int) + 1) = (m : Int) + 1 := IntWalk.i64_in _ (by omega)
      have HM := Lib.hid hm
      clear hm hv
      cases v with
      | true =>
        have HN : Hid (x ≤ leastN r hs ∧ leastN r hs ≤ m) := ⟨HXY.out.1, of_decide_eq_true hv2.symm⟩
        clear hv2
        go_wp2_with (go_at_call 62; refine C.out.mono ?_; rintro e w' ⟨rfl, B2⟩)
        have B4 := bel_trans B B2
        go_roundw
        case rel => exact ⟨x, m, rfl, rfl, by omega, by omega, HN, B4⟩
        case measure => simp [intOf]; omega
      | false =>
        have HN : Hid (m + 1 ≤ leastN r hs ∧ leastN r hs ≤ y) := ⟨by have := of_decide_eq_false hv2.symm; omega, HXY.out.2⟩
        clear hv2
        go_wp2_with (go_at_call 62; refine C.out.mono ?_; rintro e w' ⟨rfl, B2⟩)
        have B4 := bel_trans B B2
        go_roundw
        case rel => exact ⟨m + 1, y, by go_num, rfl, by omega, by omega, HN, B4⟩
        case measure => simp [intOf]; omega
    · have l1 : decide ((x : Int) < (y : Int)) = false := decide_eq_false (by omega)
      have l2 : decide (x < y) = false := decide_eq_false (by omega)
      have HE := Lib.hid (show (x : Int) = (leastN r hs : Int) by have := HXY.out; omega)
      go_wp2
      go_ret
      exact ⟨ret_int HE.out, B⟩
set_option maxHeartbeats 4000000 in
theorem implLeastBurst_r {A : Option Addr} {n c : Nat} {r v : Int} {hs : List Duo} {w : World} (h : HasD w A n hs) (hn : n ≤ 16777216) (hv : leastI r hs = v) :
    Calls Try.prog 33 #[.int .i64 r, .slice A n c] w fun e w' => e = .returned (.int .i64 v) ∧ Below w.heap.size w w' := by
  obtain ⟨w2, hw2⟩ : ∃ W, (w.alloc (.cells #[.int .i64 r] 3)).alloc (.cells #[.slice A n c] 23) = W := ⟨_, rfl⟩
  have B2 : Below w.heap.size w w2 := by rw [← hw2]; exact bel_trans (below_allocJ w _) (below_allocJ _ _)
  have hC : CapAt w2 w.heap.size (w.heap.size + 1) r A n c := by
    have h0 := heap_alloc_new w (.cells #[.int .i64 r] 3)
    have h1 := heap_alloc_new (w.alloc (.cells #[.int .i64 r] 3)) (.cells #[.slice A n c] 23)
    have h2 := ((below_allocJ (w.alloc (.cells #[.int .i64 r] 3)) (.cells #[.slice A n c] 23)).block w.heap.size (by simp)).trans h0
    have e : (w.alloc (.cells #[.int .i64 r] 3)).heap.size = w.heap.size + 1 := by simp
    rw [hw2] at h1 h2
    rw [e] at h1
    exact ⟨(cell_of_row w2 _ 0 _ _ (0, 0) h2).trans rfl, (cell_of_row w2 _ 0 _ _ (0, 0) h1).trans rfl⟩
  have C := Lib.hid (search_any (c := c) (h.bel B2) hC hn)
  have hle := leastN_le r hs
  have HV := Lib.hid hv
  obtain ⟨N, hN⟩ : ∃ N, leastN r hs = N := ⟨_, rfl⟩
  rw [hN] at C hle
  have HN := Lib.hid hN
  have e1 : (1 : Int) + (N : Int) = (N : Int) + 1 := by omega
  have w1 : IntKind.i64.wrap ((1 : Int) + (N : Int)) = (N : Int) + 1 := by rw [e1]; exact IntWalk.i64_in _ (by omega)
  have w3 : IntKind.i64.wrap ((N : Int) + 1) = (N : Int) + 1 := IntWalk.i64_in _ (by omega)
  clear hv hN hC
  by_cases hlt : N < 100
  · have C2 := Lib.hid (fun W => isBurst_yes (x := (N : Int) + 1) W (by omega))
    have HE := Lib.hid (show (N : Int) + 1 = v by rw [← HV.out]; unfold leastI; rw [HN.out, if_pos hlt])
    clear hlt hle h
    go_enter Try.func33, Try.ntmps33
    go_wp2_with (go_at_call 61; refine C.out.mono ?_; rintro e w' ⟨rfl, B3⟩)
    refine (C2.out _).mono ?_
    rintro e w' ⟨rfl, rfl⟩
    go_wp2
    go_ret
    exact ⟨ret_int HE.out, bel_trans B2 B3⟩
  · have C2 := Lib.hid (fun W => isBurst_no (x := (N : Int) + 1) W (by omega))
    have HE := Lib.hid (show (-1 : Int) = v by rw [← HV.out]; unfold leastI; rw [HN.out, if_neg hlt])
    clear hlt hle h
    go_enter Try.func33, Try.ntmps33
    go_wp2_with (go_at_call 61; refine C.out.mono ?_; rintro e w' ⟨rfl, B3⟩)
    refine (C2.out _).mono ?_
    rintro e w' ⟨rfl, rfl⟩
    go_wp2
    go_ret
    exact ⟨ret_int HE.out, bel_trans B2 B3⟩
end Go.Proofs.Ytnloejcfakcpfaa
