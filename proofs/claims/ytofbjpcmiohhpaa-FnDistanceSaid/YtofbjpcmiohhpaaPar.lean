/-
  ParityOf, FlipBit and Distance of the program and of its model: what is proved here is what they return, and that they write nothing that was there. Condition: lengths up to 2^24.
-/
import Derived.Test.YtofbjpcmiohhpaaBytes
import Derived.Lib.Walk
import Derived.Lib.Small
import Derived.Lib.BitFns
namespace Go.Proofs.Ytofbjpcmiohhpaa
open Go.RowKit

/-- How many bits of a byte are set. -/
def ones8 (z : Int) : Int := (bits8 z).sum
def onesOf (zs : List Int) : Int := (bitsFlat zs).sum
def parityOf (zs : List Int) : Int := if zs.length ≤ 600 then onesOf zs % 2 else -1

theorem onesCount8_any (z : Int) (w : World) (h0 : 0 ≤ z) (h1 : z ≤ 255) : Calls Try.prog 44 #[.int .u8 z] w fun e w' => e = .returned (.int .i64 (ones8 z)) ∧ w = w' := by
  have he : ones8 z = (Lib.onesCount z.toNat : Int) := by
    have h : ∀ n : Fin 256, ones8 (n.val : Int) = (Lib.onesCount n.val : Int) := by decide +kernel
    have h2 := h ⟨z.toNat, by omega⟩
    rwa [show ((z.toNat : Nat) : Int) = z by omega] at h2
  rw [he, ← Lib.pop8_int z h0 h1]
  go_enter Try.func44, Try.ntmps44
  go_wp2
  go_ret
  exact ⟨ret_int (by unfold wrap64; omega), rfl⟩

theorem sum_app (xs ys : List Int) : (xs ++ ys).sum = xs.sum + ys.sum := by simp
theorem bit01 (z : Int) (i : Nat) : bitAt z i = 0 ∨ bitAt z i = 1 := by unfold bitAt; omega
theorem bitsFlat01 (zs : List Int) : ∀ b ∈ bitsFlat zs, b = 0 ∨ b = 1 := by
  intro b hb
  simp only [bitsFlat, List.mem_flatMap, bits8, List.mem_map] at hb
  obtain ⟨z, _, i, _, rfl⟩ := hb
  exact bit01 z i
theorem sum01 (l : List Int) (h : ∀ b ∈ l, b = 0 ∨ b = 1) : 0 ≤ l.sum ∧ l.sum ≤ l.length := by
  induction l with
  | nil => simp
  | cons b l ih =>
    have h1 := h b (by simp)
    have h2 := ih (fun c hc => h c (by simp [hc]))
    simp only [List.sum_cons, List.length_cons]
    omega
theorem onesOf_bound (zs : List Int) (k : Nat) (h : k ≤ 600) : 0 ≤ onesOf (zs.take k) ∧ onesOf (zs.take k) ≤ 4800 := by
  have h1 := sum01 _ (bitsFlat01 (zs.take k))
  have h2 := bitsFlat_length (zs.take k)
  have h3 : (zs.take k).length ≤ k := List.length_take_le _ _
  unfold onesOf
  omega
theorem onesOf_snoc (zs : List Int) (k : Nat) (z : Int) (h : zs[k]? = some z) : onesOf (zs.take (k + 1)) = onesOf (zs.take k) + ones8 z := by
  unfold onesOf ones8; rw [bitsFlat_snoc zs k z h, sum_app]
theorem ones8_bound (z : Int) : 0 ≤ ones8 z ∧ ones8 z ≤ 8 := by
  have h := sum01 (bits8 z) (fun b hb => by
    simp only [bits8, List.mem_map] at hb
    obtain ⟨i, _, rfl⟩ := hb
    exact bit01 z i)
  rw [bits8_length] at h
  exact h

set_option maxHeartbeats 1000000 in
theorem implParityOf_any {A : Option Addr} {n c : Nat} {zs : List Int} {w : World} (h : Has w A n (ints .u8 zs)) (hu : U8s zs) (hn : n ≤ 16777216) :
    Calls Try.prog 22 #[.slice A n c] w fun e w' => e = .returned (.int .i64 (parityOf zs)) ∧ Below w.heap.size w w' := by
  have hlen := h.len
  have HL := Lib.hid hlen
  clear hlen
  by_cases hd : n ≤ 600
  · have hdd : decide (n ≤ 600) = true := by simp [hd]
    go_enter Try.func22, Try.ntmps22
    go_wp2_with (go_at_call 37; refine (isData_any _ _ _ _ (by omega)).mono ?_; rintro e w' ⟨rfl, rfl⟩)
    go_loop [3, 11] (fun v i => ∃ k : Nat, k ≤ n ∧ i = .int .i64 k ∧ v = .int .i64 (onesOf (zs.take k))) (fun _ i => n - (intOf i).toNat)
    case atStart => exact ⟨0, Nat.zero_le _, rfl, rfl⟩
    case round =>
      obtain ⟨k, hk, rfl, rfl⟩ := hrel
      have hob := onesOf_bound zs k (by omega)
      obtain ⟨hob0, hob1⟩ := hob
      by_cases hlt : k < n
      · obtain ⟨b, o, z, rfl, hbl, hx, hc⟩ := h.at_ hlt
        have hz := hu z (List.mem_of_getElem? hx)
        obtain ⟨hzl, hzu⟩ := hz
        obtain ⟨hol, hou⟩ := ones8_bound z
        have HS := Lib.hid (onesOf_snoc zs k z hx)
        clear hx
        generalize hg : onesOf (zs.take k) = p at *
        generalize hg2 : ones8 z = q at *
        go_wp2_with (go_at_call 44; refine (onesCount8_any z _ hzl hzu).mono ?_; rintro e w' ⟨rfl, rfl⟩)
        go_round
        case rel => exact ⟨k + 1, by omega, by go_num, by rw [HS.out]⟩
        case measure => simp [intOf]; omega
      · obtain rfl : k = n := by omega
        go_wp2
        go_ret
        exact ⟨ret_int (by unfold parityOf; rw [if_pos (by rw [HL.out]; omega), List.take_of_length_le (by rw [HL.out]; omega)]), Below.refl _ _⟩
  · have hdd : decide (n ≤ 600) = false := by simp [hd]
    go_enter Try.func22, Try.ntmps22
    go_wp2_with (go_at_call 37; refine (isData_any _ _ _ _ (by omega)).mono ?_; rintro e w' ⟨rfl, rfl⟩)
    go_ret
    exact ⟨ret_int (by unfold parityOf; rw [if_neg (by rw [HL.out]; omega)]), Below.refl _ _⟩

theorem bitsOf_small {zs : List Int} {n : Nat} (h : zs.length = n) (hn : n ≤ 600) : bitsOf zs = bitsFlat zs := by unfold bitsOf; rw [if_pos (by omega)]

set_option maxHeartbeats 1000000 in
theorem specParityOf_any {A : Option Addr} {n c : Nat} {zs : List Int} {w : World} (h : Has w A n (ints .u8 zs)) (hu : U8s zs) (hn : n ≤ 16777216) :
    Calls Try.prog 23 #[.slice A n c] w fun e w' => e = .returned (.int .i64 (parityOf zs)) ∧ Below w.heap.size w w' := by
  have hlen := h.len
  have HL := Lib.hid hlen
  clear hlen
  by_cases hd : n ≤ 600
  · have hdd : decide (n ≤ 600) = true := by simp [hd]
    go_enter Try.func23, Try.ntmps23
    go_wp2_with (go_at_call 38; refine (l1Data_any _ _ _ _ (by omega)).mono ?_; rintro e w' ⟨rfl, rfl⟩)
    refine (specBitsOf_any h hu (by omega)).mono ?_
    rintro e w1 ⟨A1, n1, c1, rfl, O1, B1⟩
    have hl1 := O1.has.len
    rw [bitsOf_small HL.out hd] at O1 hl1
    have hl2 : n1 ≤ 4800 := by rw [bitsFlat_length, HL.out] at hl1; omega
    have HL1 := Lib.hid hl1
    clear hl1
    go_wp2
    go_loop [3, 5] (fun v i => ∃ k : Nat, k ≤ n1 ∧ i = .int .i64 k ∧ v = .int .i64 (((bitsFlat zs).take k).sum)) (fun _ i => n1 - (intOf i).toNat)
    case atStart => exact ⟨0, Nat.zero_le _, rfl, rfl⟩
    case round =>
      obtain ⟨k, hk, rfl, rfl⟩ := hrel
      have hob := sum01 ((bitsFlat zs).take k) (fun b hb => bitsFlat01 zs b (List.mem_of_mem_take hb))
      have hol : ((bitsFlat zs).take k).length ≤ k := List.length_take_le _ _
      obtain ⟨hob0, hob1⟩ := hob
      have hob2 : ((bitsFlat zs).take k).sum ≤ 4800 := by omega
      clear hob1 hol
      by_cases hlt : k < n1
      · obtain ⟨b, o, z, rfl, hbl, hx, hc⟩ := O1.has.at_ hlt
        have hz := bitsFlat01 zs z (List.mem_of_getElem? hx)
        have hz0 : 0 ≤ z := by omega
        have hz1 : z ≤ 1 := by omega
        have hs : ((bitsFlat zs).take (k + 1)).sum = ((bitsFlat zs).take k).sum + z := by rw [List.take_add_one, hx, sum_app]; simp
        have HS := Lib.hid hs
        clear hx hz hs
        generalize hg : ((bitsFlat zs).take k).sum = p at *
        go_wp2
        go_round
        case rel => exact ⟨k + 1, by omega, by go_num, by rw [HS.out]⟩
        case measure => simp [intOf]; omega
      · obtain rfl : k = n1 := by omega
        go_wp2
        go_ret
        exact ⟨ret_int (by unfold parityOf onesOf; rw [if_pos (by rw [HL.out]; omega), List.take_of_length_le (by rw [HL1.out]; omega)]), B1⟩
  · have hdd : decide (n ≤ 600) = false := by simp [hd]
    go_enter Try.func23, Try.ntmps23
    go_wp2_with (go_at_call 38; refine (l1Data_any _ _ _ _ (by omega)).mono ?_; rintro e w' ⟨rfl, rfl⟩)
    go_ret
    exact ⟨ret_int (by unfold parityOf; rw [if_neg (by rw [HL.out]; omega)]), Below.refl _ _⟩

/-! ### FlipBit -/
def flipGood (zs : List Int) (i : Int) : Prop := zs.length ≤ 600 ∧ 0 ≤ i ∧ i < 8 * (zs.length : Int)
instance (zs : List Int) (i : Int) : Decidable (flipGood zs i) := by unfold flipGood; infer_instance
def xor8 (z m : Int) : Int := bits .xor .u8 z m
def flipBit (zs : List Int) (i : Int) : List Int := if flipGood zs i then zs.set (i.toNat / 8) (xor8 (zs.getD (i.toNat / 8) 0) (2 ^ (7 - i.toNat % 8))) else []
def flipOk (zs : List Int) (i : Int) : Bool := decide (flipGood zs i)
theorem flipBit_le (zs : List Int) (i : Int) : (flipBit zs i).length ≤ 600 := by
  unfold flipBit; split
  · rename_i h; have := h.1; simpa using this
  · simp
theorem flip_no {zs : List Int} {i : Int} {lo : Nat} {c : Nat} {A : Option Addr} {w w' : World} (hbad : ¬ flipGood zs i) (hb : Below lo w w') (ho : Own w' lo 5 A 0 c []) :
    ∃ A' n' c', Ending.returned (.tuple #[.slice A 0 c, .bool false]) = .returned (.tuple #[.slice A' n' c', .bool (flipOk zs i)]) ∧ Own w' lo 5 A' n' c' (ints .u8 (flipBit zs i)) ∧ Below lo w w' :=
  ⟨A, 0, c, by rw [show flipOk zs i = false by simp [flipOk, hbad]], by rw [show flipBit zs i = [] by simp [flipBit, hbad]]; exact ho, hb⟩
theorem flip_yes {zs : List Int} {i lo n c : Nat} {z : Int} {A : Option Addr} {w w' : World} (hg : flipGood zs i) (hx : zs[i / 8]? = some z) (hb : Below lo w w') (ho : Own w' lo 5 A n c (ints .u8 (zs.set (i / 8) (xor8 z (2 ^ (7 - i % 8)))))) :
    ∃ A' n' c', Ending.returned (.tuple #[.slice A n c, .bool true]) = .returned (.tuple #[.slice A' n' c', .bool (flipOk zs i)]) ∧ Own w' lo 5 A' n' c' (ints .u8 (flipBit zs i)) ∧ Below lo w w' :=
  ⟨A, n, c, by rw [show flipOk zs i = true by simp [flipOk, hg]], by rw [show flipBit zs i = zs.set (i / 8) (xor8 z (2 ^ (7 - i % 8))) by simp [flipBit, hg, hx]]; exact ho, hb⟩

theorem pow_byte (m : Nat) (h : m ≤ 7) : (2 : Int) ^ m % 256 = 2 ^ m := by
  have h1 : ∀ k : Fin 8, (2 : Int) ^ k.val % 256 = 2 ^ k.val := by decide
  exact h1 ⟨m, by omega⟩
theorem div_byte (m : Nat) (h : m ≤ 7) : (128 : Int) / 2 ^ m = 2 ^ (7 - m) := by
  have h1 : ∀ k : Fin 8, (128 : Int) / 2 ^ k.val = 2 ^ (7 - k.val) := by decide
  exact h1 ⟨m, by omega⟩
theorem l1In_yes (n a b : Int) (w : World) (h1 : a ≤ n) (h2 : n ≤ b) : Calls Try.prog 42 #[.int .i64 n, .int .i64 a, .int .i64 b] w fun e w' => e = .returned (.bool true) ∧ w = w' :=
  (l1In_any n a b w).mono fun e w' hh => ⟨by rw [hh.1]; simp [h1, h2], hh.2⟩
theorem l1In_no (n a b : Int) (w : World) (h : ¬ (a ≤ n ∧ n ≤ b)) : Calls Try.prog 42 #[.int .i64 n, .int .i64 a, .int .i64 b] w fun e w' => e = .returned (.bool false) ∧ w = w' :=
  (l1In_any n a b w).mono fun e w' hh => ⟨by rw [hh.1, show (decide (a ≤ n) && decide (n ≤ b)) = false by simp; omega], hh.2⟩
set_option maxHeartbeats 1000000 in
theorem l1Flip_any {A : Option Addr} {n c i : Nat} {zs : List Int} {w : World} (h : Has w A n (ints .u8 zs)) (hu : U8s zs) (hn : n ≤ 16777216) (hi : i < 8 * n) :
    Calls Try.prog 43 #[.slice A n c, .int .i64 i] w fun e w' => ∃ A' c' z, e = .returned (.slice A' n c') ∧ zs[i / 8]? = some z ∧ Own w' w.heap.size 5 A' n c' (ints .u8 (zs.set (i / 8) (xor8 z (2 ^ (7 - i % 8))))) ∧ Below w.heap.size w w' := by
  obtain ⟨i0, hi0, hz0, hz1, hz2⟩ := info_parts Try.infoU8
  obtain ⟨b, o, z, rfl, hbl, hx, hc⟩ := h.at_ (i := i / 8) (by omega)
  go_enter Try.func43, Try.ntmps43
  go_wp2_with (at_builtin; refine wpList_app_has _ rfl (.tmp 6) (.tmp 7) 22 rfl w.heap.size 5 i0 (.int .u8 0) 1 Try.underlying22 hi0 hz0 hz1 hz2 rfl (some ⟨w.heap.size, 0, none⟩) 0 0 [] rfl (World.ownsRow_lit w #[] 0 (Nat.le_refl _) (by unfold maxLen; omega) rfl) (some ⟨b, o, none⟩) n c (ints .u8 zs) rfl (h.bel ((Below.refl _ _).alloc (Nat.le_refl _) _)) (ints_oneCell _ _) (by omega) (by decide) (by simp) ?_; intro A1 c1 w1 hown1 hg1 hb1)
  rw [Nat.zero_add, List.nil_append] at hown1
  obtain ⟨g, rfl, hg0, hg1'⟩ := hown1.head (by omega)
  obtain ⟨u, hu1, hd1, hf1⟩ := hown1.at_ (k := i / 8) (by omega)
  rw [show (ints .u8 zs)[i / 8]? = some (.int .u8 z) by simp [ints, hx]] at hu1
  obtain rfl : Value.int .u8 z = u := by injection hu1
  obtain ⟨hz3, hz4⟩ := hu z (List.mem_of_getElem? hx)
  have HX := Lib.hid hx
  clear hu1 hx hg1
  go_region
  go_wp2
  go_ret
  rw [pow_byte _ (by omega)]
  exact ⟨_, _, z, rfl, HX.out, by rw [← ints_set]; exact (hown1.set_ _ _).bel (below_drewN _ 1), ((((Below.refl _ _).alloc (Nat.le_refl _) _).trans hb1).setCell hg0 _).trans (below_drewN _ 1)⟩

set_option maxHeartbeats 1000000 in
theorem specFlipBit_any {A : Option Addr} {n c : Nat} {zs : List Int} {i : Int} {w : World} (h : Has w A n (ints .u8 zs)) (hu : U8s zs) (hn : n ≤ 16777216) (_ : -9223372036854775808 ≤ i ∧ i ≤ 9223372036854775807) :
    Calls Try.prog 21 #[.slice A n c, .int .i64 i] w fun e w' => ∃ A' n' c', e = .returned (.tuple #[.slice A' n' c', .bool (flipOk zs i)]) ∧ Own w' w.heap.size 5 A' n' c' (ints .u8 (flipBit zs i)) ∧ Below w.heap.size w w' := by
  have hlen := h.len
  have HL := Lib.hid hlen
  clear hlen
  by_cases hd : n ≤ 600
  · have hdd : decide (n ≤ 600) = true := by simp [hd]
    by_cases hi : 0 ≤ i ∧ i < 8 * (n : Int)
    · obtain ⟨k, rfl⟩ := Int.eq_ofNat_of_zero_le hi.1
      have hgood : flipGood zs k := ⟨by rw [HL.out]; omega, by omega, by rw [HL.out]; omega⟩
      have HG := Lib.hid hgood
      clear hgood
      go_enter Try.func21, Try.ntmps21
      go_wp2_with (first | (go_at_call 38; refine (l1Data_any _ _ _ _ (by omega)).mono ?_; rw [hdd]; rintro e w' ⟨rfl, rfl⟩) | (go_at_call 42; refine (l1In_yes _ _ _ _ (by omega) (by omega)).mono ?_; rintro e w' ⟨rfl, rfl⟩))
      refine (l1Flip_any (i := k) h hu (by omega) (by omega)).mono ?_
      rintro e w1 ⟨A1, c1, z, rfl, hx, O1, B1⟩
      have HX := Lib.hid hx
      clear hx
      go_wp2
      go_ret2
      exact flip_yes HG.out HX.out B1 O1
    · have hbad : ¬ flipGood zs i := fun hg => hi ⟨hg.2.1, by have := hg.2.2; rw [HL.out] at this; exact this⟩
      have HG := Lib.hid hbad
      clear hbad
      go_enter Try.func21, Try.ntmps21
      go_wp2_with (first | (go_at_call 38; refine (l1Data_any _ _ _ _ (by omega)).mono ?_; rw [hdd]; rintro e w' ⟨rfl, rfl⟩) | (go_at_call 42; refine (l1In_no _ _ _ _ (by omega)).mono ?_; rintro e w' ⟨rfl, rfl⟩))
      go_ret2
      exact flip_no HG.out ((Below.refl _ _).alloc (Nat.le_refl _) _) (World.ownsRow_lit w #[] 0 (Nat.le_refl _) (by unfold maxLen; omega) rfl)
  · have hdd : decide (n ≤ 600) = false := by simp [hd]
    have hbad : ¬ flipGood zs i := fun hg => hd (by have := hg.1; rw [HL.out] at this; exact this)
    have HG := Lib.hid hbad
    clear hbad
    go_enter Try.func21, Try.ntmps21
    go_wp2_with (go_at_call 38; refine (l1Data_any _ _ _ _ (by omega)).mono ?_; rw [hdd]; rintro e w' ⟨rfl, rfl⟩)
    go_ret2
    exact flip_no HG.out ((Below.refl _ _).alloc (Nat.le_refl _) _) (World.ownsRow_lit w #[] 0 (Nat.le_refl _) (by unfold maxLen; omega) rfl)

set_option maxHeartbeats 1000000 in
theorem implFlipBit_any {A : Option Addr} {n c : Nat} {zs : List Int} {i : Int} {w : World} (h : Has w A n (ints .u8 zs)) (hu : U8s zs) (hn : n ≤ 16777216) (_ : -9223372036854775808 ≤ i ∧ i ≤ 9223372036854775807) :
    Calls Try.prog 20 #[.slice A n c, .int .i64 i] w fun e w' => ∃ A' n' c', e = .returned (.tuple #[.slice A' n' c', .bool (flipOk zs i)]) ∧ Own w' w.heap.size 5 A' n' c' (ints .u8 (flipBit zs i)) ∧ Below w.heap.size w w' := by
  obtain ⟨i0, hi0, hz0, hz1, hz2⟩ := info_parts Try.infoU8
  have hlen := h.len
  have HL := Lib.hid hlen
  clear hlen
  by_cases hd : n ≤ 600
  · have hdd : decide (n ≤ 600) = true := by simp [hd]
    by_cases hi : 0 ≤ i
    · obtain ⟨k, rfl⟩ := Int.eq_ofNat_of_zero_le hi
      by_cases hk : k < 8 * n
      · have hgood : flipGood zs k := ⟨by rw [HL.out]; omega, by omega, by rw [HL.out]; omega⟩
        have HG := Lib.hid hgood
        clear hgood
        obtain ⟨b, o, z, rfl, hbl, hx, hc⟩ := h.at_ (i := k / 8) (by omega)
        go_enter Try.func20, Try.ntmps20
        go_wp2_with (first | (go_at_call 37; refine (isData_any _ _ _ _ (by omega)).mono ?_; rw [hdd]; rintro e w' ⟨rfl, rfl⟩) | (refine wpList_make_full _ rfl _ _ 22 rfl w.heap.size 5 i0 (.int .u8 0) 1 Try.underlying22 hi0 hz0 hz1 .i64 .i64 _ _ n rfl rfl rfl rfl (by rw [hz2]; omega) (by unfold maxLen; omega) (Nat.le_refl _) ?_; intro w1 hown hgrow) | (refine wpList_copy_all _ rfl (.tmp 24) (.tmp 25) 22 rfl w.heap.size 5 i0 Try.underlying22 hi0 hz1 (some ⟨w.heap.size, 0, none⟩) n n _ rfl hown (some ⟨b, o, none⟩) c (ints .u8 zs) rfl (h.bel (below_of_grown hgrow (Nat.le_refl _) (fun k hk => by cases hk))) (ints_oneCell _ _) ?_; intro w2 hown2 hb2))
        obtain ⟨u, hu1, hd1, hf1⟩ := hown2.at_ (k := k / 8) (by omega)
        rw [show (ints .u8 zs)[k / 8]? = some (.int .u8 z) by simp [ints, hx]] at hu1
        obtain rfl : Value.int .u8 z = u := by injection hu1
        obtain ⟨hz3, hz4⟩ := hu z (List.mem_of_getElem? hx)
        have HX := Lib.hid hx
        have hb1 := below_of_grown hgrow (Nat.le_refl _) (fun k hk => by cases hk)
        clear hu1 hx hgrow hown hdd
        simp only [Act.put, List.setIfInBounds_toArray, List.set_cons_succ, List.set_cons_zero]
        go_region
        go_wp2
        go_ret2
        rw [div_byte _ (by omega)]
        exact flip_yes HG.out HX.out (((hb1.trans hb2).setCell (Nat.le_refl _) _).trans (below_drewN _ 1)) (by rw [← ints_set]; exact (hown2.set_ _ _).bel (below_drewN _ 1))
      · have hbad : ¬ flipGood zs k := fun hg => hk (by have := hg.2.2; rw [HL.out] at this; omega)
        have HG := Lib.hid hbad
        clear hbad
        go_enter Try.func20, Try.ntmps20
        go_wp2_with (go_at_call 37; refine (isData_any _ _ _ _ (by omega)).mono ?_; rw [hdd]; rintro e w' ⟨rfl, rfl⟩)
        go_ret2
        exact flip_no HG.out (Below.refl _ _) (World.ownsRow_nil _ _ _ _)
    · have hbad : ¬ flipGood zs i := fun hg => hi hg.2.1
      have HG := Lib.hid hbad
      have hi' : i < 0 := by omega
      clear hbad hi
      go_enter Try.func20, Try.ntmps20
      go_wp2_with (go_at_call 37; refine (isData_any _ _ _ _ (by omega)).mono ?_; rw [hdd]; rintro e w' ⟨rfl, rfl⟩)
      go_ret2
      exact flip_no HG.out (Below.refl _ _) (World.ownsRow_nil _ _ _ _)
  · have hdd : decide (n ≤ 600) = false := by simp [hd]
    have hbad : ¬ flipGood zs i := fun hg => hd (by have := hg.1; rw [HL.out] at this; exact this)
    have HG := Lib.hid hbad
    clear hbad
    go_enter Try.func20, Try.ntmps20
    go_wp2_with (go_at_call 37; refine (isData_any _ _ _ _ (by omega)).mono ?_; rw [hdd]; rintro e w' ⟨rfl, rfl⟩)
    go_ret2
    exact flip_no HG.out (Below.refl _ _) (World.ownsRow_nil _ _ _ _)

end Go.Proofs.Ytofbjpcmiohhpaa
