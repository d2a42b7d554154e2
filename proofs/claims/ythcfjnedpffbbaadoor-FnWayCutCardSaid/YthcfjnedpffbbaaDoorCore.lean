/-
  The walks of the exact laws' helpers: what is proved here is what the copies, the comparisons and the marks return, and that they write nothing that was there (the marks: only the block that they mark). Condition: lengths up to 2^24.
-/
import Derived.Test.YthcfjnedpffbbaaDoorBase
import Derived.Test.YthcfjnedpffbbaaDoorRows
import Derived.Deep.QuietTactic
import Derived.BigQuiet
import Derived.Outline
namespace Go.Proofs.YthcfjnedpffbbaaDoor
open Go.RowKit

theorem Tryd.infoU8 : (Tryd.prog.info? 5).map (fun i => (i.zero, i.size, i.bytes)) = some (some (.int .u8 0), 1, 1) := by kernel_rfl
theorem Tryd.infoInt : (Tryd.prog.info? 3).map (fun i => (i.zero, i.size, i.bytes)) = some (some (.int .i64 0), 1, 8) := by kernel_rfl

theorem part_done (k : IntKind) (zs : List Int) (n : Nat) (h : zs.length = n) (z : Value) : (ints k zs).take n ++ List.replicate (n - n) z = ints k zs := by
  simp [List.take_of_length_le (show (ints k zs).length ≤ n by rw [ints_length]; omega)]



theorem u8_of (a : Nat) : IntKind.u8.wrap (a : Int) = ((a % 256 : Nat) : Int) := by simp [IntKind.wrap, IntKind.bits, IntKind.signed]

set_option maxHeartbeats 400000 in
theorem toIntS_any {A : Option Addr} {n c : Nat} {zs : List Int} {w : World} (h : Has w A n (ints .i64 zs)) (hn : n ≤ 16777216) :
    Calls Tryd.prog 37 #[.slice A n c] w fun e w' => ∃ g, e = .returned (.slice (some ⟨g, 0, none⟩) n n) ∧ Own w' w.heap.size 3 (some ⟨g, 0, none⟩) n n (ints .i64 zs) ∧ Below w.heap.size w w' := by
  obtain ⟨i0, hi, hz0, hz1, hz2⟩ := info_parts Tryd.infoInt
  have hlen := h.len
  go_enter Tryd.func37, Tryd.ntmps37
  go_wp2_with (refine wpList_make_full _ rfl _ _ 25 rfl w.heap.size 3 i0 (.int .i64 0) 1 Tryd.underlying25 hi hz0 hz1 .i64 .i64 _ _ n rfl rfl rfl rfl (by rw [hz2]; omega) (by unfold maxLen; omega) (Nat.le_refl _) ?_; intro w1 hown hgrow)
  have hcap : (madeCells (Value.cells (.int .i64 0)) (n * 1)).toList = List.replicate n (.int .i64 0) := by
    rw [Nat.mul_one]; exact toList_madeCells_one _ _
  have hown0 : Own w1 w.heap.size 3 (some ⟨w.heap.size, 0, none⟩) n n (List.replicate n (.int .i64 0)) := by unfold Own; rw [← hcap]; exact hown
  have hb0 : Below w.heap.size w w1 := below_of_grown hgrow (Nat.le_refl _) (fun k hk => by cases hk)
  clear hown hgrow hcap hi hz0 hz1 hz2 hlen
  go_loopw [4] (fun i wr => ∃ k : Nat, k ≤ n ∧ i = .int .i64 k ∧ Own wr w.heap.size 3 (some ⟨w.heap.size, 0, none⟩) n n ((ints .i64 zs).take k ++ List.replicate (n - k) (.int .i64 0)) ∧ Below w.heap.size w wr) (fun i _ => n - (intOf i).toNat)
  case atStart => exact ⟨0, Nat.zero_le _, rfl, by simpa using hown0, hb0⟩
  case round =>
    obtain ⟨k, hk, rfl, hown, hb⟩ := hrel
    by_cases hlt : k < n
    · obtain ⟨b, o, z, rfl, hbl, hx, hc⟩ := h.at_ hlt
      have hc1 := (hb.cell (p := ⟨b, o + k, none⟩) hbl).trans hc
      obtain ⟨u, hu, hd, hf⟩ := hown.at_ hlt
      have HX := Lib.hid hx
      clear hx hu hc
      go_wp2
      go_roundw
      case rel => exact ⟨k + 1, by omega, by go_num, by rw [← set_take (ints .i64 zs) (.int .i64 0) k n h.1 hlt (.int .i64 z) (by simp [ints, HX.out])]; exact hown.set_ k _, hb.setCell (Nat.le_refl _) _⟩
      case measure => simp [intOf]; omega
    · obtain rfl : k = n := by omega
      go_wp2
      go_ret
      exact ⟨_, rfl, by rw [part_done _ _ _ h.len] at hown; exact hown, hb⟩

set_option maxHeartbeats 400000 in
theorem eqIntS_same {A A' : Option Addr} {n c n' c' : Nat} {zs : List Int} {w : World} (h : Has w A n (ints .i64 zs)) (h' : Has w A' n' (ints .i64 zs)) (hn : n ≤ 16777216) :
    Calls Tryd.prog 38 #[.slice A n c, .slice A' n' c'] w fun e w' => e = .returned (.bool true) ∧ ∃ m, w' = w.drewN m := by
  obtain rfl : n' = n := by have := h.1; have := h'.1; omega
  go_enter Tryd.func38, Tryd.ntmps38
  go_wp2
  go_loopw [5] (fun i wr => ∃ k : Nat, k ≤ n' ∧ i = .int .i64 k ∧ ∃ m, wr = w.drewN m) (fun i _ => n' - (intOf i).toNat)
  case atStart => exact ⟨0, Nat.zero_le _, rfl, 0, rfl⟩
  case round =>
    obtain ⟨k, hk, rfl, m, rfl⟩ := hrel
    by_cases hlt : k < n'
    · obtain ⟨b, o, z, rfl, hbl, hx, hc⟩ := h.at_ hlt
      obtain ⟨b', o', z', rfl, hbl', hx', hc'⟩ := h'.at_ hlt
      obtain rfl : z = z' := by rw [hx] at hx'; injection hx'
      clear hx hx'
      have hk0 : (0 : Int) ≤ (k : Int) := by omega
      have hk1 : (k : Int) < (n' : Int) := by omega
      go_wp2
      go_quiet (fail)
      go_wp2
      go_roundw
      case rel => exact ⟨k + 1, by omega, by go_num, _, rfl⟩
      case measure => simp [intOf]; omega
    · obtain rfl : k = n' := by omega
      go_wp2
      go_ret
      exact ⟨rfl, _, rfl⟩
theorem eqIntS_b {A A' : Option Addr} {n c n' c' : Nat} {zs : List Int} {w : World} (h : Has w A n (ints .i64 zs)) (h' : Has w A' n' (ints .i64 zs)) (hn : n ≤ 16777216) :
    Calls Tryd.prog 38 #[.slice A n c, .slice A' n' c'] w fun e w' => e = .returned (.bool true) ∧ Below w.heap.size w w' :=
  (eqIntS_same h h' hn).mono fun e w' hh => ⟨hh.1, by obtain ⟨_, m, rfl⟩ := hh; exact below_drewN _ _⟩

def marksI (K n : Nat) : List Int := (List.range n).map fun i => ((K + i : Nat) : Int)
theorem marksI_length (K n : Nat) : (marksI K n).length = n := by simp [marksI]
theorem marksI_at (K n i : Nat) (h : i < n) : (marksI K n)[i]? = some ((K + i : Nat) : Int) := by simp [marksI, h]
set_option maxHeartbeats 400000 in
theorem markIntS_any {A : Option Addr} {n c lo K : Nat} {e0 : TypeId} {zs : List Int} {w : World} (h : Own w lo e0 A n c (ints .i64 zs)) (hn : n ≤ 16777216) (hK : K ≤ 1099511627776) :
    Calls Tryd.prog 76 #[.slice A n c, .int .i64 K] w fun e w' => e = .returned (.int .i64 ((K + n : Nat) : Int)) ∧ Own w' lo e0 A n c (ints .i64 (marksI K n)) ∧ w.grownBy w' (A.map (·.block)) := by
  have hl := h.has.len
  go_enter Tryd.func76, Tryd.ntmps76
  go_wp2
  go_loopw [1, 5] (fun q i wr => ∃ k : Nat, k ≤ n ∧ i = .int .i64 k ∧ q = .int .i64 ((K + k : Nat) : Int) ∧ Own wr lo e0 A n c (ints .i64 ((marksI K n).take k ++ zs.drop k)) ∧ w.grownBy wr (A.map (·.block))) (fun _ i _ => n - (intOf i).toNat)
  case atStart => exact ⟨0, Nat.zero_le _, rfl, rfl, by simpa using h, World.grownBy.refl _ _⟩
  case round =>
    obtain ⟨k, hk, rfl, rfl, hown, hg⟩ := hrel
    by_cases hlt : k < n
    · obtain ⟨g, o, z, hA, _⟩ := h.has.at_ hlt
      subst hA
      have ho : (⟨g, o, none⟩ : Addr) = ⟨g, 0, none⟩ := h.at_head
      obtain rfl : o = 0 := by injection ho
      obtain ⟨u, hu, hd, hf⟩ := hown.at_ hlt
      clear hu ho
      go_wp2
      go_roundw
      case rel => exact ⟨k + 1, by omega, by go_num, by go_num, by
          rw [show ((K : Int) + (k : Int)) = ((K + k : Nat) : Int) by omega, ← set_drop (marksI K n) zs k n (marksI_length K n) hl hlt _ (marksI_at K n k hlt), ← ints_set]
          exact hown.set_ k _, grown_set hg k _⟩
      case measure => simp [intOf]; omega
    · obtain rfl : k = n := by omega
      go_wp2
      go_ret
      exact ⟨rfl, by rw [List.take_of_length_le (by rw [marksI_length]; omega), List.drop_of_length_le (by omega), List.append_nil] at hown; exact hown, hg⟩

set_option maxHeartbeats 400000 in
theorem heldIntS_any {A : Option Addr} {n c K : Nat} {w : World} (h : Has w A n (ints .i64 (marksI K n))) (hn : n ≤ 16777216) (hK : K ≤ 1099511627776) :
    Calls Tryd.prog 77 #[.slice A n c, .int .i64 K] w fun e w' => e = .returned (.int .i64 ((K + n : Nat) : Int)) ∧ w = w' := by
  go_enter Tryd.func77, Tryd.ntmps77
  go_wp2
  go_loop [1, 5] (fun q i => ∃ k : Nat, k ≤ n ∧ i = .int .i64 k ∧ q = .int .i64 ((K + k : Nat) : Int)) (fun _ i => n - (intOf i).toNat)
  case atStart => exact ⟨0, Nat.zero_le _, rfl, rfl⟩
  case round =>
    obtain ⟨k, hk, rfl, rfl⟩ := hrel
    by_cases hlt : k < n
    · obtain ⟨b, o, z, rfl, hbl, hx, hc⟩ := h.at_ hlt
      rw [marksI_at K n k hlt] at hx
      obtain rfl : ((K + k : Nat) : Int) = z := by injection hx
      clear hx
      have he : (((K : Int) + (k : Int)) == ((K : Int) + (k : Int))) = true := by simp
      go_wp2
      go_round
      case rel => exact ⟨k + 1, by omega, by go_num, by go_num⟩
      case measure => simp [intOf]; omega
    · obtain rfl : k = n := by omega
      go_wp2
      go_ret
      exact ⟨rfl, rfl⟩
end Go.Proofs.YthcfjnedpffbbaaDoor
