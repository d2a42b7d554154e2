/-
  Chapter 7's program, claims: what is proved here is what the small functions on claims return, and that they write nothing that was there. No condition.
-/
import Derived.Test.YtkmdpmhaljieaaaImp7c
import Derived.StillTailTactics
namespace Go.Proofs.Ytkmdpmhaljieaaa
open Go.RowKit

theorem isNaN_any (x : Int) (w : World) : Calls Try.prog 117 #[.int .i64 x] w fun e w' => e = .returned (.bool false) ∧ w = w' := by
  have hB : (x != x) = false := by simp
  go_enter Try.func117, Try.ntmps117
  go_wp2
  go_ret
  exact ⟨rfl, rfl⟩
def cmpI (x y : Int) : Int := if x < y then -1 else if y < x then 1 else 0
set_option maxHeartbeats 1000000 in
theorem compare_any (x y : Int) (w : World) : Calls Try.prog 109 #[.int .i64 x, .int .i64 y] w fun e w' => e = .returned (.int .i64 (cmpI x y)) ∧ w = w' := by
  have C1 := Lib.hid (isNaN_any x w)
  have C2 := Lib.hid (isNaN_any y w)
  by_cases h1 : x < y
  · have h1B : decide (x < y) = true := decide_eq_true h1
    have HE := Lib.hid (show cmpI x y = -1 by unfold cmpI; rw [if_pos h1])
    clear h1
    go_enter Try.func109, Try.ntmps109
    go_wp2_with (fail)
    refine C1.out.mono ?_
    rintro e w1 ⟨rfl, rfl⟩
    go_wp2_with (fail)
    refine C2.out.mono ?_
    rintro e w1 ⟨rfl, rfl⟩
    go_wp2
    go_ret
    exact ⟨ret_int HE.out.symm, rfl⟩
  · have h1B : decide (x < y) = false := decide_eq_false h1
    by_cases h2 : y < x
    · have h2B : decide (x > y) = true := decide_eq_true h2
      have h2C : decide (y < x) = true := decide_eq_true h2
      have HE := Lib.hid (show cmpI x y = 1 by unfold cmpI; rw [if_neg h1, if_pos h2])
      clear h1 h2
      go_enter Try.func109, Try.ntmps109
      go_wp2_with (fail)
      refine C1.out.mono ?_
      rintro e w1 ⟨rfl, rfl⟩
      go_wp2_with (fail)
      refine C2.out.mono ?_
      rintro e w1 ⟨rfl, rfl⟩
      go_wp2
      go_ret
      exact ⟨ret_int HE.out.symm, rfl⟩
    · have h2B : decide (x > y) = false := decide_eq_false h2
      have h2C : decide (y < x) = false := decide_eq_false h2
      have HE := Lib.hid (show cmpI x y = 0 by unfold cmpI; rw [if_neg h1, if_neg h2])
      clear h1 h2
      go_enter Try.func109, Try.ntmps109
      go_wp2_with (fail)
      refine C1.out.mono ?_
      rintro e w1 ⟨rfl, rfl⟩
      go_wp2_with (fail)
      refine C2.out.mono ?_
      rintro e w1 ⟨rfl, rfl⟩
      go_wp2
      go_ret
      exact ⟨ret_int HE.out.symm, rfl⟩
theorem compare_q (x y : Int) (w : World) : Calls Try.prog 109 #[.int .i64 x, .int .i64 y] w fun e w' => e = .returned (.int .i64 (cmpI x y)) ∧ w' = w :=
  (compare_any x y w).mono fun _ _ h => ⟨h.1, h.2.symm⟩
/-- The first one that is not 0. -/
def orI : List Int → Int
  | [] => 0
  | x :: xs => if x ≠ 0 then x else orI xs
theorem orI_drop {l : List Int} {k : Nat} {z : Int} (hx : l[k]? = some z) : orI (l.drop k) = if z ≠ 0 then z else orI (l.drop (k + 1)) := by
  have h := (List.getElem?_eq_some_iff.1 hx)
  obtain ⟨hk, rfl⟩ := h
  rw [List.drop_eq_getElem_cons hk]
  rfl
set_option maxHeartbeats 1000000 in
theorem or_any {A : Option Addr} {n c : Nat} {l : List Int} {w : World} (h : Has w A n (ints .i64 l)) (hn : n ≤ 1000) : Calls Try.prog 108 #[.slice A n c] w fun e w' => e = .returned (.int .i64 (orI l)) ∧ w = w' := by
  have HL := Lib.hid h.len
  go_enter Try.func108, Try.ntmps108
  go_wp2
  go_loop [8] (fun t => ∃ k : Nat, k ≤ n ∧ t = .int .i64 (k : Int) ∧ Hid (orI (l.drop k) = orI l)) (fun t => n - (intOf t).toNat)
  case atStart => exact ⟨0, Nat.zero_le _, rfl, Lib.hid rfl⟩
  case round =>
    obtain ⟨k, hk, rfl, HK⟩ := hrel
    by_cases hlt : k < n
    · have hltB : decide ((k : Int) < (n : Int)) = true := by simp; omega
      obtain ⟨b, o, z, rfl, hbl, hx, hc⟩ := h.at_ hlt
      have HD := Lib.hid (orI_drop hx)
      clear hx
      by_cases hz : z = 0
      · have hzB : (z != 0) = false := by simp [hz]
        have HK2 : Hid (orI (l.drop (k + 1)) = orI l) := by
          have := HD.out
          rw [if_neg (by simp [hz])] at this
          exact this.symm.trans HK.out
        clear hz
        go_wp2
        go_round
        case rel => exact ⟨k + 1, by omega, by go_num, HK2⟩
        case measure => simp [intOf]; omega
      · have hzB : (z != 0) = true := by simp [hz]
        have HE := Lib.hid (show orI l = z by
          have := HD.out
          rw [if_pos hz] at this
          exact HK.out.symm.trans this)
        clear hz
        go_wp2
        go_ret
        exact ⟨ret_int HE.out.symm, rfl⟩
    · have hltB : decide ((k : Int) < (n : Int)) = false := by simp; omega
      obtain rfl : k = n := by omega
      have HE := Lib.hid (show orI l = 0 by
        have := HK.out
        rw [List.drop_of_length_le (by rw [HL.out]; omega)] at this
        exact this.symm)
      go_wp2
      go_ret
      exact ⟨ret_int HE.out.symm, rfl⟩
/-- How two claims compare. -/
def cmp4 (x y : List Int) : Int := orI [cmpI (gi x 0) (gi y 0), cmpI (gi x 1) (gi y 1), cmpI (gi x 2) (gi y 2), cmpI (gi x 3) (gi y 3)]
theorem cmp4_less (x y : List Int) : decide (cmp4 x y < 0) = decide (less4 x y) := by
  rw [decide_eq_decide]
  unfold cmp4 less4 cmpI
  generalize gi x 0 = a
  generalize gi x 1 = b
  generalize gi x 2 = c
  generalize gi x 3 = d
  generalize gi y 0 = p
  generalize gi y 1 = q
  generalize gi y 2 = r
  generalize gi y 3 = s
  simp only [orI]
  repeat' split
  all_goals omega
theorem cmpI_b (x y : Int) : -1 ≤ cmpI x y ∧ cmpI x y ≤ 1 := by unfold cmpI; split <;> (try split) <;> omega
theorem orI_b : ∀ l : List Int, (∀ z ∈ l, -1 ≤ z ∧ z ≤ 1) → -1 ≤ orI l ∧ orI l ≤ 1
  | [], _ => by simp [orI]
  | x :: xs, h => by
    have := orI_b xs (fun z hz => h z (List.mem_cons_of_mem _ hz))
    have := h x List.mem_cons_self
    unfold orI
    split <;> assumption
/-- A claim as a value. -/
def aggC (x : List Int) : Value := .agg #[.int .i64 (gi x 0), .int .i64 (gi x 1), .int .i64 (gi x 2), .int .i64 (gi x 3)]
set_option maxRecDepth 100000 in
set_option maxHeartbeats 4000000 in
theorem compareClaims_any (x y : List Int) (w : World) : Calls Try.prog 92 #[.agg #[.int .i64 (gi x 0), .int .i64 (gi x 1), .int .i64 (gi x 2), .int .i64 (gi x 3)], .agg #[.int .i64 (gi y 0), .int .i64 (gi y 1), .int .i64 (gi y 2), .int .i64 (gi y 3)]] w fun e w' => e = .returned (.int .i64 (cmp4 x y)) ∧ Below w.heap.size w w' := by
  have HE := Lib.hid (show orI [cmpI (gi x 0) (gi y 0), cmpI (gi x 1) (gi y 1), cmpI (gi x 2) (gi y 2), cmpI (gi x 3) (gi y 3)] = cmp4 x y from rfl)
  have CQ := Lib.hid (fun (a b : Int) (W : World) => compare_q a b W)
  generalize gi x 0 = a0 at *
  generalize gi x 1 = a1 at *
  generalize gi x 2 = a2 at *
  generalize gi x 3 = a3 at *
  generalize gi y 0 = b0 at *
  generalize gi y 1 = b1 at *
  generalize gi y 2 = b2 at *
  generalize gi y 3 = b3 at *
  have h1 := heap_alloc_new w (.cells #[.int .i64 a0, .int .i64 a1, .int .i64 a2, .int .i64 a3] 69)
  have s1 : w.heap.size < (w.alloc (.cells #[.int .i64 a0, .int .i64 a1, .int .i64 a2, .int .i64 a3] 69)).heap.size := by simp
  have B1 := (Below.refl w.heap.size w).alloc (Nat.le_refl _) (.cells #[.int .i64 a0, .int .i64 a1, .int .i64 a2, .int .i64 a3] 69)
  generalize hW1 : w.alloc (.cells #[.int .i64 a0, .int .i64 a1, .int .i64 a2, .int .i64 a3] 69) = w1 at h1 s1 B1
  have h2 := heap_alloc_new w1 (.cells #[.int .i64 b0, .int .i64 b1, .int .i64 b2, .int .i64 b3] 69)
  have B2 := (Below.refl w1.heap.size w1).alloc (Nat.le_refl _) (.cells #[.int .i64 b0, .int .i64 b1, .int .i64 b2, .int .i64 b3] 69)
  generalize hW2 : w1.alloc (.cells #[.int .i64 b0, .int .i64 b1, .int .i64 b2, .int .i64 b3] 69) = w2 at h2 B2
  have h1' := (B2.block w.heap.size s1).trans h1
  obtain ⟨D, hD⟩ : ∃ D, w2.drew = D := ⟨_, rfl⟩
  have BD : Below w.heap.size w D := hD ▸ (B1.trans (B2.mono (Nat.le_of_lt s1))).trans (below_drewN _ 1)
  have hd1 : D.heap[w.heap.size]? = some (.cells #[.int .i64 a0, .int .i64 a1, .int .i64 a2, .int .i64 a3] 69 (0, 0)) := by rw [← hD]; exact h1'
  have hd2 : D.heap[w1.heap.size]? = some (.cells #[.int .i64 b0, .int .i64 b1, .int .i64 b2, .int .i64 b3] 69 (0, 0)) := by rw [← hD]; exact h2
  obtain ⟨x0, x1, x2, x3⟩ := cells4 hd1
  obtain ⟨y0, y1, y2, y3⟩ := cells4 hd2
  clear hd1 hd2
  generalize hm0 : cmpI a0 b0 = m0 at *
  generalize hm1 : cmpI a1 b1 = m1 at *
  generalize hm2 : cmpI a2 b2 = m2 at *
  generalize hm3 : cmpI a3 b3 = m3 at *
  have C0 := Lib.hid (CQ.out a0 b0 D)
  have C1 := Lib.hid (CQ.out a1 b1 D)
  have C2 := Lib.hid (CQ.out a2 b2 D)
  have C3 := Lib.hid (CQ.out a3 b3 D)
  rw [hm0] at C0
  rw [hm1] at C1
  rw [hm2] at C2
  rw [hm3] at C3
  have OX : Own (D.alloc (.cells #[.int .i64 m0, .int .i64 m1, .int .i64 m2, .int .i64 m3] 3)) D.heap.size 3 (some ⟨D.heap.size, 0, none⟩) 4 4 (ints .i64 [m0, m1, m2, m3]) := World.ownsRow_lit D #[.int .i64 m0, .int .i64 m1, .int .i64 m2, .int .i64 m3] 4 (Nat.le_refl _) (by unfold maxLen; omega) rfl
  have BX := BD.alloc BD.size (.cells #[.int .i64 m0, .int .i64 m1, .int .i64 m2, .int .i64 m3] 3)
  have CO := Lib.hid (or_any (c := 4) OX.has (by omega))
  clear hm0 hm1 hm2 hm3 CQ h1 h1' h2 B1 B2
  go_enter Try.func92, Try.ntmps92
  go_wp2
  go_still_tail 20, (by kernel_rfl)
  still_call C0.out
  repeat still_step
  still_call C1.out
  repeat still_step
  still_call C2.out
  repeat still_step
  still_call C3.out
  repeat still_step
  refine wpStill_nil ?_
  go_wp2_with (fail)
  refine CO.out.mono ?_
  rintro e w5 ⟨rfl, rfl⟩
  go_wp2
  go_ret
  exact ⟨ret_int HE.out, BX⟩
set_option maxHeartbeats 2000000 in
theorem over_any (x : List Int) (o i k : Int) (w : World) (h1 : 0 ≤ gi x 1 ∧ gi x 1 ≤ 100000) (hk : 0 ≤ k ∧ k ≤ 99) :
    Calls Try.prog 91 #[.agg #[.int .i64 (gi x 0), .int .i64 (gi x 1), .int .i64 (gi x 2), .int .i64 (gi x 3)], .agg #[.int .i64 o, .int .i64 i, .int .i64 k]] w fun e w' => e = .returned (.agg #[.int .i64 (gi x 0), .int .i64 (gi x 1 + k), .int .i64 o, .int .i64 i]) ∧ Below w.heap.size w w' := by
  generalize gi x 0 = a0 at *
  generalize gi x 1 = a1 at *
  generalize gi x 2 = a2 at *
  generalize gi x 3 = a3 at *
  go_enter Try.func91, Try.ntmps91
  go_wp2
  have hF : (((w.alloc (.cells #[.int .i64 a0, .int .i64 a1, .int .i64 a2, .int .i64 a3] 69)).alloc (.cells #[.int .i64 o, .int .i64 i, .int .i64 k] 100)).alloc (.cells #[.int .i64 a0, .int .i64 (a1 + k), .int .i64 o, .int .i64 i] 69)).heap[w.heap.size + 2]? = some (.cells #[.int .i64 a0, .int .i64 (a1 + k), .int .i64 o, .int .i64 i] 69 (0, 0)) := by
    have := heap_alloc_new ((w.alloc (.cells #[.int .i64 a0, .int .i64 a1, .int .i64 a2, .int .i64 a3] 69)).alloc (.cells #[.int .i64 o, .int .i64 i, .int .i64 k] 100)) (.cells #[.int .i64 a0, .int .i64 (a1 + k), .int .i64 o, .int .i64 i] 69)
    simpa using this
  refine bodyPost_ret (results_cell_row rfl _ _ _ _ _ _ _ rfl hF Try.underlying69 rfl (by kernel_rfl)) rfl ?_
  exact ⟨rfl, ((((Below.refl _ _).alloc (Nat.le_refl _) _).alloc (by simp) _).alloc (by simp; omega) _)⟩
set_option maxHeartbeats 2000000 in
theorem numbers_any (x : List Int) (hx : x.length = 4) (w : World) :
    Calls Try.prog 93 #[.agg #[.int .i64 (gi x 0), .int .i64 (gi x 1), .int .i64 (gi x 2), .int .i64 (gi x 3)]] w fun e w' => ∃ A', e = .returned (.slice A' 4 4) ∧ Own w' w.heap.size 3 A' 4 4 (ints .i64 x) ∧ Below w.heap.size w w' := by
  have HX := Lib.hid (four_list hx)
  generalize gi x 0 = a0 at *
  generalize gi x 1 = a1 at *
  generalize gi x 2 = a2 at *
  generalize gi x 3 = a3 at *
  clear hx
  have B1 := (Below.refl w.heap.size w).alloc (Nat.le_refl _) (.cells #[.int .i64 a0, .int .i64 a1, .int .i64 a2, .int .i64 a3] 69)
  obtain ⟨x0, x1, x2, x3⟩ := cells4 (heap_alloc_new w (.cells #[.int .i64 a0, .int .i64 a1, .int .i64 a2, .int .i64 a3] 69))
  generalize hW1 : w.alloc (.cells #[.int .i64 a0, .int .i64 a1, .int .i64 a2, .int .i64 a3] 69) = w1 at *
  have OX : Own (w1.alloc (.cells #[.int .i64 a0, .int .i64 a1, .int .i64 a2, .int .i64 a3] 3)) w1.heap.size 3 (some ⟨w1.heap.size, 0, none⟩) 4 4 (ints .i64 [a0, a1, a2, a3]) := World.ownsRow_lit w1 #[.int .i64 a0, .int .i64 a1, .int .i64 a2, .int .i64 a3] 4 (Nat.le_refl _) (by unfold maxLen; omega) rfl
  have BX := B1.alloc B1.size (.cells #[.int .i64 a0, .int .i64 a1, .int .i64 a2, .int .i64 a3] 3)
  go_enter Try.func93, Try.ntmps93
  go_wp2
  go_ret
  exact ⟨_, rfl, by rw [HX.out]; exact OX.mono B1.size, BX⟩
end Go.Proofs.Ytkmdpmhaljieaaa
