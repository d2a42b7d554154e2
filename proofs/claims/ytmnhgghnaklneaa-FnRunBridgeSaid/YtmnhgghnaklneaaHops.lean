/-
  Frames in a slice, and what a bridge does with one: what is proved here is what the model's BridgeStep returns, and that it writes nothing that was there. Condition: lengths up to 2^24.
-/
import Derived.Test.YtmnhgghnaklneaaBridgeB
import Derived.Test.YtmnhgghnaklneaaDraw1
namespace Go.Proofs.Ytmnhgghnaklneaa
open Go.RowKit

/-- The slice at A with n frames reads as hs. -/
def HasH (w : World) (A : Option Addr) (n : Nat) (hs : List Hop3) : Prop :=
  hs.length = n ∧ ∀ i, i < n → ∃ b o h, A = some ⟨b, o, none⟩ ∧ hs[i]? = some h ∧ w.cell? ⟨b, o + i * 3, none⟩ = some (.int .i64 h.1) ∧ w.cell? ⟨b, o + i * 3 + 1, none⟩ = some (.int .i64 h.2.1) ∧ w.cell? ⟨b, o + i * 3 + 2, none⟩ = some (.int .i64 h.2.2)
theorem HasH.bel {w w' : World} {A : Option Addr} {n : Nat} {hs : List Hop3} (h : HasH w A n hs) (hb : Below w.heap.size w w') : HasH w' A n hs :=
  ⟨h.1, fun i hi => by
    obtain ⟨b, o, x, hA, hx, c0, c1, c2⟩ := h.2 i hi
    have hlt : b < w.heap.size := World.block_lt_of_cell? w ⟨b, o + i * 3, none⟩ c0
    exact ⟨b, o, x, hA, hx, (hb.cell (p := ⟨b, o + i * 3, none⟩) hlt).trans c0, (hb.cell (p := ⟨b, o + i * 3 + 1, none⟩) hlt).trans c1, (hb.cell (p := ⟨b, o + i * 3 + 2, none⟩) hlt).trans c2⟩⟩
theorem HasH.at_ {w : World} {A : Option Addr} {n : Nat} {hs : List Hop3} (h : HasH w A n hs) {i : Nat} (hi : i < n) :
    ∃ b o f t q, A = some ⟨b, o, none⟩ ∧ b < w.heap.size ∧ hs[i]? = some (f, t, q) ∧ w.cell? ⟨b, o + i * 3, none⟩ = some (.int .i64 f) ∧ w.cell? ⟨b, o + i * 3 + 1, none⟩ = some (.int .i64 t) ∧ w.cell? ⟨b, o + i * 3 + 2, none⟩ = some (.int .i64 q) := by
  obtain ⟨b, o, ⟨f, t, q⟩, hA, hx, c0, c1, c2⟩ := h.2 i hi
  exact ⟨b, o, f, t, q, hA, World.block_lt_of_cell? w ⟨b, o + i * 3, none⟩ c0, hx, c0, c1, c2⟩

theorem cells3 {w : World} {B : Nat} {x y z : Value} {t : TypeId} (h : w.heap[B]? = some (.cells #[x, y, z] t (0, 0))) :
    w.cell? ⟨B, 0, none⟩ = some x ∧ w.cell? ⟨B, 1, none⟩ = some y ∧ w.cell? ⟨B, 2, none⟩ = some z :=
  ⟨(cell_of_row w B 0 _ t (0, 0) h).trans rfl, (cell_of_row w B 1 _ t (0, 0) h).trans rfl, (cell_of_row w B 2 _ t (0, 0) h).trans rfl⟩
theorem ret_three {v u : Value} {b c : Bool} (h : b = c) : Ending.returned (.tuple #[v, u, .bool b]) = .returned (.tuple #[v, u, .bool c]) := by rw [h]
def I64H (hs : List Hop3) : Prop := ∀ h ∈ hs, (-9223372036854775808 ≤ h.1 ∧ h.1 ≤ 9223372036854775807) ∧ (-9223372036854775808 ≤ h.2.1 ∧ h.2.1 ≤ 9223372036854775807) ∧ (-9223372036854775808 ≤ h.2.2 ∧ h.2.2 ≤ 9223372036854775807)
/-- What BridgeStep returns. -/
def StepR (w w' : World) (e : Ending) (ts : List Int) (ports : Int) (h : Hop3) : Prop :=
  ∃ A1 n1 c1 A2 n2 c2, e = .returned (.tuple #[.slice A1 n1 c1, .slice A2 n2 c2, .bool (decide (stepOk ts ports h))]) ∧ Own w' w.heap.size 3 A1 n1 c1 (ints .i64 (stepL ts ports h)) ∧ Own w' w.heap.size 3 A2 n2 c2 (ints .i64 (outsL ts ports h)) ∧ (∀ a1 a2, A1 = some a1 → A2 = some a2 → a1.block ≠ a2.block) ∧ Below w.heap.size w w'

set_option maxHeartbeats 2000000 in
theorem specBridgeStep_w {A : Option Addr} {n c : Nat} {ts : List Int} {ports f t q : Int} {w : World} (h : Has w A n (ints .i64 ts)) (hn : n ≤ 16777216) :
    Calls Try.prog 26 #[.slice A n c, .int .i64 ports, .agg #[.int .i64 f, .int .i64 t, .int .i64 q]] w fun e w' => StepR w w' e ts ports (f, t, q) := by
  have hB0 := heap_alloc_new w (.cells #[.int .i64 f, .int .i64 t, .int .i64 q] 33)
  have B0 : Below w.heap.size w (w.alloc (.cells #[.int .i64 f, .int .i64 t, .int .i64 q] 33)) := (Below.refl _ _).alloc (Nat.le_refl _) _
  have s0 : w.heap.size < (w.alloc (.cells #[.int .i64 f, .int .i64 t, .int .i64 q] 33)).heap.size := by simp
  obtain ⟨k0, k1, k2⟩ := cells3 hB0
  go_enter Try.func26, Try.ntmps26
  go_wp2_with (fail)
  refine (specLearnPort_w (h.bel B0) hn).mono ?_
  rintro e w1 ⟨A1, n1, c1, rfl, O1, B1⟩
  have hB1 := (B1.block w.heap.size s0).trans hB0
  have s1 := B1.size
  have C1 := B0.trans (B1.mono (by omega))
  have O1' := O1.mono (Nat.le_of_lt s0)
  obtain ⟨j0, j1, j2⟩ := cells3 hB1
  clear k0 k1 k2 hB0
  by_cases hg : learnOk ts ports f q
  · have hset : learnL ts ports f q = ts.set f.toNat q := by unfold learnL; rw [if_pos hg]
    have HD := Lib.hid (decide_eq_true hg)
    have hok2 : tOk (ts.set f.toNat q) ports := learn_ok hg
    rw [hset] at O1 O1'
    rw [HD.out]
    by_cases ht : 0 ≤ t ∧ t ≤ 15
    · have C2 := Lib.hid (l1In_yes t 0 15 w1 ht.1 ht.2)
      have hst : stepOk ts ports (f, t, q) := ⟨hg, ht.1, ht.2⟩
      have HS := Lib.hid (decide_eq_true hst)
      have HL := Lib.hid (show stepL ts ports (f, t, q) = ts.set f.toNat q by unfold stepL; rw [if_pos hst]; rfl)
      have HO := Lib.hid (show outsL ts ports (f, t, q) = portsL (ts.set f.toNat q) ports t q by unfold outsL; rw [if_pos hst]; rfl)
      have hn1 : n1 ≤ 16777216 := by have e1 := O1.has.len; rw [List.length_set] at e1; have := hg.1.1; omega
      clear hg hset hst ht hok2
      go_wp2_with (fail)
      refine C2.out.mono ?_
      rintro e w2 ⟨rfl, rfl⟩
      go_wp2_with (fail)
      refine (specPortsFor_w O1.has hn1).mono ?_
      rintro e w3 ⟨A3, n3, c3, rfl, O3, B3⟩
      have s3 := B3.size
      have hap : ∀ a1 a2, A1 = some a1 → A3 = some a2 → a1.block ≠ a2.block := fun a1 a2 e1 e2 => by
        subst e1 e2; have h1 := O1.block.2; have h2 := O3.block.1; omega
      go_wp2
      refine bodyPost_ret (results_tmp3 rfl _ _ _) rfl ?_
      exact ⟨_, _, _, _, _, _, ret_three HS.out.symm, by rw [HL.out]; exact O1'.bel B3, by rw [HO.out]; exact O3.mono (by omega), hap, C1.trans (B3.mono (by omega))⟩
    · have C2 := Lib.hid (l1In_no t 0 15 w1 ht)
      have hst : ¬ stepOk ts ports (f, t, q) := fun hh => ht hh.2
      have HS := Lib.hid (decide_eq_false hst)
      have HL := Lib.hid (show stepL ts ports (f, t, q) = [] by unfold stepL; rw [if_neg hst])
      have HO := Lib.hid (show outsL ts ports (f, t, q) = [] by unfold outsL; rw [if_neg hst])
      have E1 : Own (w1.alloc (.cells #[] 3)) w.heap.size 3 (some ⟨w1.heap.size, 0, none⟩) 0 0 (ints .i64 []) := World.ownsRow_lit w1 #[] 0 (by omega) (by unfold maxLen; omega) rfl
      have E2 : Own ((w1.alloc (.cells #[] 3)).alloc (.cells #[] 3)) w.heap.size 3 (some ⟨(w1.alloc (.cells #[] 3)).heap.size, 0, none⟩) 0 0 (ints .i64 []) := World.ownsRow_lit (w1.alloc (.cells #[] 3)) #[] 0 (by simp; omega) (by unfold maxLen; omega) rfl
      clear hg hset hst ht hok2
      go_wp2_with (fail)
      refine C2.out.mono ?_
      rintro e w2 ⟨rfl, rfl⟩
      go_wp2
      refine bodyPost_ret (results_tmp3 rfl _ _ _) rfl ?_
      refine ⟨_, _, _, _, _, _, ret_three HS.out.symm, by rw [HL.out]; exact E1.bel ((Below.refl _ _).alloc (Nat.le_refl _) _), by rw [HO.out]; simpa using E2, ?_, (C1.alloc (by omega) _).alloc (by simp; omega) _⟩
      intro a1 a2 e1 e2
      injection e1 with e1; injection e2 with e2
      subst e1 e2
      simp
  · have hst : ¬ stepOk ts ports (f, t, q) := fun hh => hg hh.1
    have HD := Lib.hid (decide_eq_false hg)
    have HS := Lib.hid (decide_eq_false hst)
    have HL := Lib.hid (show stepL ts ports (f, t, q) = [] by unfold stepL; rw [if_neg hst])
    have HO := Lib.hid (show outsL ts ports (f, t, q) = [] by unfold outsL; rw [if_neg hst])
    have E1 : Own (w1.alloc (.cells #[] 3)) w.heap.size 3 (some ⟨w1.heap.size, 0, none⟩) 0 0 (ints .i64 []) := World.ownsRow_lit w1 #[] 0 (by omega) (by unfold maxLen; omega) rfl
    have E2 : Own ((w1.alloc (.cells #[] 3)).alloc (.cells #[] 3)) w.heap.size 3 (some ⟨(w1.alloc (.cells #[] 3)).heap.size, 0, none⟩) 0 0 (ints .i64 []) := World.ownsRow_lit (w1.alloc (.cells #[] 3)) #[] 0 (by simp; omega) (by unfold maxLen; omega) rfl
    rw [HD.out]
    clear hg hst
    go_wp2
    refine bodyPost_ret (results_tmp3 rfl _ _ _) rfl ?_
    refine ⟨_, _, _, _, _, _, ret_three HS.out.symm, by rw [HL.out]; exact E1.bel ((Below.refl _ _).alloc (Nat.le_refl _) _), by rw [HO.out]; simpa using E2, ?_, (C1.alloc (by omega) _).alloc (by simp; omega) _⟩
    intro a1 a2 e1 e2
    injection e1 with e1; injection e2 with e2
    subst e1 e2
    simp
end Go.Proofs.Ytmnhgghnaklneaa
