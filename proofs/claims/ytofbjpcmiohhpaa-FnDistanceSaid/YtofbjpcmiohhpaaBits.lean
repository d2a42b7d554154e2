/-
  Chapter 1's plain mathematics and walks: what is proved here is what BitsOf, BytesOf, ParityOf, FlipBit and Distance return, in the program and in its model, and that they write nothing that was there. Condition: lengths up to 2^24.
-/
import Derived.Test.YtofbjpcmiohhpaaCore
import Derived.Deep.Light
namespace Go.Proofs.Ytofbjpcmiohhpaa
open Go.RowKit

def bitAt (z : Int) (i : Nat) : Int := z / 2 ^ (7 - i) % 2
def bits8 (z : Int) : List Int := (List.range 8).map (bitAt z)
def bitsFlat (zs : List Int) : List Int := zs.flatMap bits8
def bitsOf (zs : List Int) : List Int := if zs.length ≤ 600 then bitsFlat zs else []
theorem bits8_length (z : Int) : (bits8 z).length = 8 := by simp [bits8]
theorem bits8_at (z : Int) (i : Nat) (h : i < 8) : (bits8 z)[i]? = some (bitAt z i) := by simp [bits8, h]
theorem bitsFlat_length (zs : List Int) : (bitsFlat zs).length = 8 * zs.length := by
  induction zs with
  | nil => rfl
  | cons z zs ih => simp only [bitsFlat, List.flatMap_cons, List.length_append, bits8_length, List.length_cons] at *; omega

theorem bitsOf_le (zs : List Int) : (bitsOf zs).length ≤ 4800 := by
  unfold bitsOf; split
  · rw [bitsFlat_length]; omega
  · simp

def I64s (zs : List Int) : Prop := ∀ z ∈ zs, -9223372036854775808 ≤ z ∧ z ≤ 9223372036854775807
def U8s (zs : List Int) : Prop := ∀ z ∈ zs, 0 ≤ z ∧ z ≤ 255

theorem isData_any (A : Option Addr) (n c : Nat) (w : World) (hn : n ≤ 16777216) : Calls Try.prog 37 #[.slice A n c] w fun e w' => e = .returned (.bool (decide (n ≤ 600))) ∧ w = w' := by
  go_enter Try.func37, Try.ntmps37
  go_wp2
  go_ret
  exact ⟨ret_bool (by rw [decide_eq_decide]; omega), rfl⟩

theorem l1Data_any (A : Option Addr) (n c : Nat) (w : World) (hn : n ≤ 16777216) : Calls Try.prog 38 #[.slice A n c] w fun e w' => e = .returned (.bool (decide (n ≤ 600))) ∧ w = w' := by
  go_enter Try.func38, Try.ntmps38
  go_wp2
  go_ret
  exact ⟨ret_bool (by rw [decide_eq_decide]; omega), rfl⟩

theorem l1Bit_any (z : Int) (i : Nat) (w : World) (h0 : 0 ≤ z) (h1 : z ≤ 255) (hi : i < 8) : Calls Try.prog 39 #[.int .u8 z, .int .i64 i] w fun e w' => e = .returned (.int .i64 (bitAt z i)) ∧ w = w' := by
  go_enter Try.func39, Try.ntmps39
  go_wp2
  go_ret
  exact ⟨ret_int (Int.tmod_eq_emod_of_nonneg (Int.ediv_nonneg h0 (Int.pow_nonneg (by omega)))), rfl⟩

theorem bitsFlat_snoc (zs : List Int) (k : Nat) (z : Int) (h : zs[k]? = some z) : bitsFlat (zs.take (k + 1)) = bitsFlat (zs.take k) ++ bits8 z := by
  rw [List.take_add_one, h]; simp [bitsFlat]
theorem bits8_snoc (z : Int) (j : Nat) (h : j < 8) : (bits8 z).take (j + 1) = (bits8 z).take j ++ [bitAt z j] := by
  rw [List.take_add_one, bits8_at z j h]; rfl
theorem bits8_all (z : Int) : (bits8 z).take 8 = bits8 z := List.take_of_length_le (by rw [bits8_length]; omega)
theorem ints_app (k : IntKind) (xs ys : List Int) : ints k (xs ++ ys) = ints k xs ++ ints k ys := by simp [ints]
theorem take_len {α : Type} (xs : List α) (k : Nat) (h : k ≤ xs.length) : (xs.take k).length = k := by simp; omega

set_option maxHeartbeats 1000000 in
theorem specBitsOf_any {A : Option Addr} {n c : Nat} {zs : List Int} {w : World} (h : Has w A n (ints .u8 zs)) (hu : U8s zs) (hn : n ≤ 16777216) :
    Calls Try.prog 15 #[.slice A n c] w fun e w' => ∃ A' n' c', e = .returned (.slice A' n' c') ∧ Own w' w.heap.size 3 A' n' c' (ints .i64 (bitsOf zs)) ∧ Below w.heap.size w w' := by
  obtain ⟨i0, hi, hz0, hz1, hz2⟩ := info_parts Try.infoInt
  have hlen := h.len
  have HL := Lib.hid hlen
  clear hlen
  by_cases hd : n ≤ 600
  · go_enter Try.func15, Try.ntmps15
    go_wp2
    go_loopw [3, 4] (fun v i wr => ∃ k A' m c', k ≤ n ∧ i = .int .i64 ((k : Nat) : Int) ∧ v = .slice A' m c' ∧ Own wr w.heap.size 3 A' m c' (ints .i64 (bitsFlat (zs.take k))) ∧ Below w.heap.size w wr) (fun _ i _ => n - (intOf i).toNat)
    case atStart => exact ⟨0, _, _, _, Nat.zero_le _, rfl, rfl, World.ownsRow_lit w #[] 0 (Nat.le_refl _) (by unfold maxLen; omega) rfl, (Below.refl _ _).alloc (Nat.le_refl _) _⟩
    case round =>
      obtain ⟨k, A', m, c', hk, rfl, rfl, hown, hb⟩ := hrel
      have hdd : decide (n ≤ 600) = true := by simp [hd]
      by_cases hlt : k < n
      · obtain ⟨b, o, z, rfl, hbl, hx, hc⟩ := h.at_ hlt
        have hz := hu z (List.mem_of_getElem? hx)
        have hzl := hz.1
        have hzu := hz.2
        have HX := Lib.hid hx
        have hbit : ∀ j W, j < 8 → Calls Try.prog 39 #[.int .u8 z, .int .i64 (j : Nat)] W fun e w' => e = .returned (.int .i64 (bitAt z j)) ∧ W = w' := fun j W hj => l1Bit_any z j W hzl hzu hj
        have HB := Lib.hid hbit
        have hml := hown.1
        rw [ints_length, bitsFlat_length, take_len zs k (by rw [HL.out]; omega)] at hml
        have hml' : m ≤ 4800 := by omega
        clear hx hz hzl hzu hbit hml
        have hge := hb.size
        go_wp2_with (go_at_call 38; refine (l1Data_any _ _ _ _ (by omega)).mono ?_; rintro e w' ⟨rfl, rfl⟩)
        obtain ⟨wo, rfl⟩ : ∃ wo : World, wo = wr := ⟨_, rfl⟩
        go_loopw [3, 5] (fun v i wr => ∃ j A' m c', j ≤ 8 ∧ i = .int .i64 ((j : Nat) : Int) ∧ v = .slice A' m c' ∧ Own wr w.heap.size 3 A' m c' (ints .i64 (bitsFlat (zs.take k) ++ (bits8 z).take j)) ∧ Below w.heap.size w wr) (fun _ i _ => 8 - (intOf i).toNat)
        case atStart => exact ⟨0, _, _, _, by omega, rfl, rfl, by simpa using hown, hb⟩
        case round =>
          obtain ⟨j, A1, m1, c1, hj, rfl, rfl, hown1, hb1⟩ := hrel
          by_cases hj8 : j < 8
          · have hc1 := (hb1.cell (p := ⟨b, o + k, none⟩) hbl).trans hc
            have hml1 := hown1.1
            rw [ints_length, List.length_append, bitsFlat_length, take_len zs k (by rw [HL.out]; omega), List.length_take, bits8_length] at hml1
            have hml1' : m1 ≤ 4808 := by omega
            clear hml1
            have hs1 := hb1.size
            go_wp2_with (first | (go_at_call 39; refine (HB.out _ _ hj8).mono ?_; rintro e w' ⟨rfl, rfl⟩) | (at_builtin; refine wpList_apps _ rfl (.tmp 21) (.tmp 28) 24 rfl w.heap.size 3 i0 (.int .i64 0) 8 Try.underlying24 hi hz0 hz1 hz2 rfl A1 m1 c1 _ rfl hown1 1 1 #[.int .i64 (bitAt z j)] rfl rfl (by simp [Value.oneCell']) (by decide) (by omega) (by decide) (by omega) ?_; intro g cap w2 hown2 hg2 hb2 _))
            go_roundw
            case rel => exact ⟨j + 1, _, _, _, by omega, by go_num, rfl, by rw [bits8_snoc z j hj8, ← List.append_assoc, ints_app _ _ [_]]; exact hown2, hb1.trans (hb2.mono (Nat.le_refl _))⟩
            case measure => simp [intOf]; omega
          · obtain rfl : j = 8 := by omega
            go_wp2
            go_roundw
            case rel => exact ⟨k + 1, _, _, _, by omega, by go_num, rfl, by rw [bitsFlat_snoc zs k z HX.out]; rwa [bits8_all] at hown1, hb1⟩
            case measure => simp [intOf]; omega
      · obtain rfl : k = n := by omega
        go_wp2
        go_ret
        refine ⟨_, _, _, rfl, ?_, hb⟩
        rw [List.take_of_length_le (by rw [HL.out]; omega)] at hown
        rw [show bitsOf zs = bitsFlat zs by unfold bitsOf; rw [if_pos (by rw [HL.out]; omega)]]
        exact hown
  · have hdd : decide (n ≤ 600) = false := by simp [hd]
    have hn0 : (0 : Int) < (n : Int) := by omega
    go_enter Try.func15, Try.ntmps15
    go_wp2
    go_loopw [3, 4] (fun v i wr => i = .int .i64 0 ∧ v = .slice (some ⟨w.heap.size, 0, none⟩) 0 0 ∧ wr = w.alloc (.cells #[] 3)) (fun _ i _ => n - (intOf i).toNat)
    case atStart => exact ⟨rfl, rfl, rfl⟩
    case round =>
      obtain ⟨rfl, rfl, rfl⟩ := hrel
      go_wp2_with (go_at_call 38; refine (l1Data_any _ _ _ _ (by omega)).mono ?_; rintro e w' ⟨rfl, rfl⟩)
      go_ret
      exact ⟨_, _, _, rfl, by rw [show bitsOf zs = [] by unfold bitsOf; rw [if_neg (by rw [HL.out]; omega)]]; exact World.ownsRow_lit w #[] 0 (Nat.le_refl _) (by unfold maxLen; omega) rfl, (Below.refl _ _).alloc (Nat.le_refl _) _⟩

theorem bitsFlat_at (zs : List Int) (k : Nat) (z : Int) (h : zs[k / 8]? = some z) : (bitsFlat zs)[k]? = some (bitAt z (k % 8)) := by
  induction zs generalizing k with
  | nil => simp at h
  | cons x zs ih =>
    by_cases hk : k < 8
    · rw [show k / 8 = 0 by omega] at h
      obtain rfl : x = z := by simpa using h
      rw [show bitsFlat (x :: zs) = bits8 x ++ bitsFlat zs by simp [bitsFlat], List.getElem?_append_left (by rw [bits8_length]; omega), bits8_at x k hk, Nat.mod_eq_of_lt hk]
    · obtain ⟨j, rfl⟩ : ∃ j, k = j + 8 := ⟨k - 8, by omega⟩
      rw [show (j + 8) / 8 = j / 8 + 1 by omega, List.getElem?_cons_succ] at h
      rw [show bitsFlat (x :: zs) = bits8 x ++ bitsFlat zs by simp [bitsFlat], List.getElem?_append_right (by rw [bits8_length]; omega), bits8_length, show j + 8 - 8 = j by omega, show (j + 8) % 8 = j % 8 by omega]
      exact ih j h

theorem shr_bounds (z : Int) (m : Nat) (h0 : 0 ≤ z) (h1 : z ≤ 255) : 0 ≤ z / 2 ^ m ∧ z / 2 ^ m ≤ 255 :=
  ⟨Int.ediv_nonneg h0 (Int.pow_nonneg (by omega)), Int.le_trans (Int.ediv_le_self _ h0) h1⟩
theorem and_one (x : Int) (h0 : 0 ≤ x) (h1 : x ≤ 255) : bits .and .i64 x 1 = x % 2 := by
  have h : ∀ n : Fin 256, bits .and .i64 (n.val : Int) 1 = (n.val : Int) % 2 := by decide +kernel
  have h2 := h ⟨x.toNat, by omega⟩
  rwa [show ((x.toNat : Nat) : Int) = x by omega] at h2
theorem bit_val (z : Int) (i : Nat) (h0 : 0 ≤ z) (h1 : z ≤ 255) : bits .and .i64 (wrap64 (z / 2 ^ (7 - i))) 1 = bitAt z i := by
  have h := shr_bounds z (7 - i) h0 h1
  rw [show wrap64 (z / 2 ^ (7 - i)) = z / 2 ^ (7 - i) by unfold wrap64; omega, and_one _ h.1 h.2]
  rfl

set_option maxHeartbeats 1000000 in
theorem implBitsOf_any {A : Option Addr} {n c : Nat} {zs : List Int} {w : World} (h : Has w A n (ints .u8 zs)) (hu : U8s zs) (hn : n ≤ 16777216) :
    Calls Try.prog 13 #[.slice A n c] w fun e w' => ∃ A' n' c', e = .returned (.slice A' n' c') ∧ Own w' w.heap.size 3 A' n' c' (ints .i64 (bitsOf zs)) ∧ Below w.heap.size w w' := by
  obtain ⟨i0, hi, hz0, hz1, hz2⟩ := info_parts Try.infoInt
  have hlen := h.len
  have HL := Lib.hid hlen
  clear hlen
  by_cases hd : n ≤ 600
  · have hdd : decide (n ≤ 600) = true := by simp [hd]
    go_enter Try.func13, Try.ntmps13
    go_wp2_with (first | (go_at_call 37; refine (isData_any _ _ _ _ (by omega)).mono ?_; rintro e w' ⟨rfl, rfl⟩) | (refine wpList_make_full _ rfl _ _ 24 rfl w.heap.size 3 i0 (.int .i64 0) 1 Try.underlying24 hi hz0 hz1 .i64 .i64 _ _ (8 * n) rfl rfl (by omega) (by omega) (by rw [hz2]; omega) (by unfold maxLen; omega) (Nat.le_refl _) ?_; intro w1 hown hgrow))
    have hcap : (madeCells (Value.cells (.int .i64 0)) (8 * n * 1)).toList = List.replicate (8 * n) (.int .i64 0) := by
      rw [Nat.mul_one]; exact toList_madeCells_one _ _
    have hown0 : Own w1 w.heap.size 3 (some ⟨w.heap.size, 0, none⟩) (8 * n) (8 * n) (List.replicate (8 * n) (.int .i64 0)) := by unfold Own; rw [← hcap]; exact hown
    have hb0 : Below w.heap.size w w1 := below_of_grown hgrow (Nat.le_refl _) (fun k hk => by cases hk)
    clear hown hgrow hcap hi hz0 hz1 hz2
    go_loopw [14] (fun i wr => ∃ k : Nat, k ≤ 8 * n ∧ i = .int .i64 k ∧ Own wr w.heap.size 3 (some ⟨w.heap.size, 0, none⟩) (8 * n) (8 * n) ((ints .i64 (bitsFlat zs)).take k ++ List.replicate (8 * n - k) (.int .i64 0)) ∧ Below w.heap.size w wr) (fun i _ => 8 * n - (intOf i).toNat)
    case atStart => exact ⟨0, Nat.zero_le _, rfl, by simpa using hown0, hb0⟩
    case round =>
      obtain ⟨k, hk, rfl, hown, hb⟩ := hrel
      by_cases hlt : k < 8 * n
      · obtain ⟨b, o, z, rfl, hbl, hx, hc⟩ := h.at_ (i := k / 8) (by omega)
        have hz := hu z (List.mem_of_getElem? hx)
        have hzl := hz.1
        have hzu := hz.2
        have HX := Lib.hid (bitsFlat_at zs k z hx)
        have hc1 := (hb.cell (p := ⟨b, o + k / 8, none⟩) hbl).trans hc
        obtain ⟨u, hu1, hd1, hf⟩ := hown.at_ hlt
        clear hx hc hu1 hz
        go_wp2
        go_roundw
        case rel =>
          refine ⟨k + 1, by omega, by go_num, ?_, hb.setCell (Nat.le_refl _) _⟩
          rw [bit_val z (k % 8) hzl hzu, ← set_take (ints .i64 (bitsFlat zs)) (.int .i64 0) k (8 * n) (by rw [ints_length, bitsFlat_length, HL.out]) hlt (.int .i64 (bitAt z (k % 8))) (by simp [ints, HX.out])]
          exact hown.set_ k _
        case measure => simp [intOf]; omega
      · obtain rfl : k = 8 * n := by omega
        go_wp2
        go_ret
        refine ⟨_, _, _, rfl, ?_, hb⟩
        rw [part_done _ _ _ (by rw [bitsFlat_length, HL.out])] at hown
        rw [show bitsOf zs = bitsFlat zs by unfold bitsOf; rw [if_pos (by rw [HL.out]; omega)]]
        exact hown
  · have hdd : decide (n ≤ 600) = false := by simp [hd]
    go_enter Try.func13, Try.ntmps13
    go_wp2_with (go_at_call 37; refine (isData_any _ _ _ _ (by omega)).mono ?_; rintro e w' ⟨rfl, rfl⟩)
    go_ret
    exact ⟨_, _, _, rfl, by rw [show bitsOf zs = [] by unfold bitsOf; rw [if_neg (by rw [HL.out]; omega)]]; exact World.ownsRow_nil _ _ _ _, Below.refl _ _⟩
end Go.Proofs.Ytofbjpcmiohhpaa
