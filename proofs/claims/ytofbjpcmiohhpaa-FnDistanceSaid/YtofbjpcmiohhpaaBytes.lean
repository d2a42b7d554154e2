/-
  BytesOf of the program and of its model: what is proved here is which bytes the bits give, or that there are none. Condition: lengths up to 2^24.
-/
import Derived.Test.YtofbjpcmiohhpaaBits
namespace Go.Proofs.Ytofbjpcmiohhpaa
open Go.RowKit

def val (l : List Int) : Int := l.foldl (fun n b => 2 * n + b) 0
def AllBits (zs : List Int) : Prop := ∀ z ∈ zs, z = 0 ∨ z = 1
instance (zs : List Int) : Decidable (AllBits zs) := by unfold AllBits; infer_instance
/-- The bytes of the first k of bits, m bytes in all. -/
def packTo (zs : List Int) (m k : Nat) : List Int := (List.range m).map fun i => val (((zs.take k).drop (8 * i)).take 8)
def GoodBits (zs : List Int) : Prop := zs.length % 8 = 0 ∧ zs.length ≤ 4800 ∧ AllBits zs
instance (zs : List Int) : Decidable (GoodBits zs) := by unfold GoodBits; infer_instance
def bytesOf (zs : List Int) : List Int := if GoodBits zs then packTo zs (zs.length / 8) zs.length else []
def bytesOk (zs : List Int) : Bool := decide (GoodBits zs)

theorem bytesOf_le (zs : List Int) : (bytesOf zs).length ≤ 600 := by
  unfold bytesOf; split
  · rename_i h; have := h.2.1; simp [packTo]; omega
  · simp
theorem val_snoc (l : List Int) (b : Int) : val (l ++ [b]) = 2 * val l + b := by simp [val]
theorem val_bound (l : List Int) (h : AllBits l) : 0 ≤ val l ∧ val l < 2 ^ l.length := by
  rw [← List.reverse_reverse l] at h ⊢
  generalize l.reverse = r at h ⊢
  induction r with
  | nil => simp [val]
  | cons b r ih =>
    rw [List.reverse_cons, val_snoc]
    have hb := h b (by simp)
    have hr := ih (fun z hz => h z (by simp at hz ⊢; exact .inl hz))
    rw [List.length_append, List.length_singleton, Int.pow_succ]
    omega
theorem packTo_length (zs : List Int) (m k : Nat) : (packTo zs m k).length = m := by simp [packTo]
theorem packTo_at (zs : List Int) (m k i : Nat) (h : i < m) : (packTo zs m k)[i]? = some (val (((zs.take k).drop (8 * i)).take 8)) := by simp [packTo, h]
theorem packTo_zero (zs : List Int) (m : Nat) : packTo zs m 0 = List.replicate m 0 := by
  apply List.ext_getElem?; intro i
  by_cases h : i < m
  · rw [packTo_at _ _ _ _ h]; simp [h, val]
  · simp [packTo, h]
theorem chunk_snoc (zs : List Int) (k : Nat) (z : Int) (h : zs[k]? = some z) : (((zs.take (k + 1)).drop (8 * (k / 8))).take 8) = (((zs.take k).drop (8 * (k / 8))).take 8) ++ [z] := by
  have hl : k < zs.length := (List.getElem?_eq_some_iff.1 h).1
  rw [show zs.take (k + 1) = zs.take k ++ [z] by rw [List.take_add_one, h]; rfl, List.drop_append_of_le_length (by simp; omega)]
  have h1 : ((zs.take k).drop (8 * (k / 8)) ++ [z]).take 8 = (zs.take k).drop (8 * (k / 8)) ++ [z] := List.take_of_length_le (by simp; omega)
  have h2 : ((zs.take k).drop (8 * (k / 8))).take 8 = (zs.take k).drop (8 * (k / 8)) := List.take_of_length_le (by simp; omega)
  rw [h1, h2]
theorem chunk_other (zs : List Int) (k i : Nat) (h : i ≠ k / 8) : (((zs.take (k + 1)).drop (8 * i)).take 8) = (((zs.take k).drop (8 * i)).take 8) := by
  apply List.ext_getElem?; intro j
  simp only [List.getElem?_take, List.getElem?_drop]
  by_cases hj : j < 8
  · simp only [hj, if_true]
    by_cases h1 : 8 * i + j < k
    · rw [if_pos (by omega), if_pos h1]
    · rw [if_neg (by omega), if_neg h1]
  · simp [hj]
theorem packTo_succ (zs : List Int) (m k : Nat) (z : Int) (h : zs[k]? = some z) :
    packTo zs m (k + 1) = (packTo zs m k).set (k / 8) (2 * val (((zs.take k).drop (8 * (k / 8))).take 8) + z) := by
  apply List.ext_getElem?; intro i
  by_cases hi : i < m
  · by_cases hk : i = k / 8
    · subst hk
      rw [List.getElem?_set_self (by rw [packTo_length]; exact hi), packTo_at _ _ _ _ hi, chunk_snoc zs k z h, val_snoc]
    · rw [List.getElem?_set_ne (by omega), packTo_at _ _ _ _ hi, packTo_at _ _ _ _ hi, chunk_other zs k i hk]
  · rw [List.getElem?_eq_none (by rw [packTo_length]; omega), List.getElem?_eq_none (by rw [List.length_set, packTo_length]; omega)]

theorem l1In_any (n a b : Int) (w : World) : Calls Try.prog 42 #[.int .i64 n, .int .i64 a, .int .i64 b] w fun e w' => e = .returned (.bool (decide (a ≤ n) && decide (n ≤ b))) ∧ w = w' := by
  by_cases h1 : a ≤ n
  · have hd : decide (a ≤ n) = true := by simp [h1]
    go_enter Try.func42, Try.ntmps42
    go_wp2
    go_ret
    exact ⟨by simp [h1], rfl⟩
  · have hd : decide (a ≤ n) = false := by simp [h1]
    go_enter Try.func42, Try.ntmps42
    go_wp2
    go_ret
    exact ⟨by simp, rfl⟩

theorem chunk_bits (zs : List Int) (hb : AllBits zs) (k i : Nat) : AllBits (((zs.take k).drop (8 * i)).take 8) :=
  fun z hz => hb z (List.mem_of_mem_take (List.mem_of_mem_drop (List.mem_of_mem_take hz)))
theorem part_bound (zs : List Int) (k : Nat) (hb : AllBits (zs.take k)) : 0 ≤ val (((zs.take k).drop (8 * (k / 8))).take 8) ∧ val (((zs.take k).drop (8 * (k / 8))).take 8) < 128 := by
  have h1 := val_bound (((zs.take k).drop (8 * (k / 8))).take 8) (fun z hz => hb z (List.mem_of_mem_drop (List.mem_of_mem_take hz)))
  have hl : (((zs.take k).drop (8 * (k / 8))).take 8).length ≤ 7 := by simp; omega
  have h2 : (((2 : Nat) ^ (((zs.take k).drop (8 * (k / 8))).take 8).length : Nat) : Int) ≤ ((2 ^ 7 : Nat) : Int) := Int.ofNat_le.2 (Nat.pow_le_pow_right (by omega) hl)
  rw [Int.natCast_pow] at h2
  exact ⟨h1.1, Int.lt_of_lt_of_le h1.2 h2⟩
theorem AllBits.snoc {zs : List Int} {k : Nat} {z : Int} (h : AllBits (zs.take k)) (hx : zs[k]? = some z) (hz : z = 0 ∨ z = 1) : AllBits (zs.take (k + 1)) := by
  rw [show zs.take (k + 1) = zs.take k ++ [z] by rw [List.take_add_one, hx]; rfl]
  intro y hy
  rcases List.mem_append.1 hy with hy | hy
  · exact h y hy
  · rw [List.mem_singleton.1 hy]; exact hz

theorem or_val (p z : Int) (h0 : 0 ≤ p) (h1 : p < 128) (hz : z = 0 ∨ z = 1) : bits .or .u8 (p * 2) z = 2 * p + z := by
  have h : ∀ n : Fin 128, bits .or .u8 ((n.val : Int) * 2) 0 = 2 * (n.val : Int) + 0 ∧ bits .or .u8 ((n.val : Int) * 2) 1 = 2 * (n.val : Int) + 1 := by decide +kernel
  have h2 := h ⟨p.toNat, by omega⟩
  rw [show ((p.toNat : Nat) : Int) = p by omega] at h2
  rcases hz with rfl | rfl
  · exact h2.1
  · exact h2.2
theorem bytesOf_yes {zs : List Int} {lo m k c : Nat} {A : Option Addr} {w w' : World} (hg : GoodBits zs) (hk : zs.length = k) (ho : Own w' lo 5 A m c (ints .u8 (packTo zs (k / 8) k))) (hb : Below lo w w') :
    ∃ A' n' c', Ending.returned (.tuple #[.slice A m c, .bool true]) = .returned (.tuple #[.slice A' n' c', .bool (bytesOk zs)]) ∧ Own w' lo 5 A' n' c' (ints .u8 (bytesOf zs)) ∧ Below lo w w' :=
  ⟨A, m, c, by rw [show bytesOk zs = true by simp [bytesOk, hg]], by subst hk; rw [show bytesOf zs = packTo zs (zs.length / 8) zs.length by simp [bytesOf, hg]]; exact ho, hb⟩
theorem bytesOf_no' {zs : List Int} {lo c : Nat} {A : Option Addr} {w w' : World} (hbad : ¬ GoodBits zs) (hb : Below lo w w') (ho : Own w' lo 5 A 0 c []) :
    ∃ A' n' c', Ending.returned (.tuple #[.slice A 0 c, .bool false]) = .returned (.tuple #[.slice A' n' c', .bool (bytesOk zs)]) ∧ Own w' lo 5 A' n' c' (ints .u8 (bytesOf zs)) ∧ Below lo w w' :=
  ⟨A, 0, c, by rw [show bytesOk zs = false by simp [bytesOk, hbad]], by rw [show bytesOf zs = [] by simp [bytesOf, hbad]]; exact ho, hb⟩
theorem bytesOf_no {zs : List Int} {lo : Nat} {w w' : World} (hbad : ¬ GoodBits zs) (hb : Below lo w w') :
    ∃ A' n' c', Ending.returned (.tuple #[.slice none 0 0, .bool false]) = .returned (.tuple #[.slice A' n' c', .bool (bytesOk zs)]) ∧ Own w' lo 5 A' n' c' (ints .u8 (bytesOf zs)) ∧ Below lo w w' :=
  ⟨none, 0, 0, by rw [show bytesOk zs = false by simp [bytesOk, hbad]], by rw [show bytesOf zs = [] by simp [bytesOf, hbad]]; exact World.ownsRow_nil _ _ _ _, hb⟩
set_option maxHeartbeats 1000000 in
theorem implBytesOf_any {A : Option Addr} {n c : Nat} {zs : List Int} {w : World} (h : Has w A n (ints .i64 zs)) (_ : I64s zs) (hn : n ≤ 16777216) :
    Calls Try.prog 16 #[.slice A n c] w fun e w' => ∃ A' n' c', e = .returned (.tuple #[.slice A' n' c', .bool (bytesOk zs)]) ∧ Own w' w.heap.size 5 A' n' c' (ints .u8 (bytesOf zs)) ∧ Below w.heap.size w w' := by
  obtain ⟨i0, hi, hz0, hz1, hz2⟩ := info_parts Try.infoU8
  have hlen := h.len
  have HL := Lib.hid hlen
  clear hlen
  by_cases hd : n % 8 = 0 ∧ n ≤ 4800
  · obtain ⟨hd8, hd4⟩ := hd
    go_enter Try.func16, Try.ntmps16
    go_wp2_with (refine wpList_make_full _ rfl _ _ 22 rfl w.heap.size 5 i0 (.int .u8 0) 1 Try.underlying22 hi hz0 hz1 .i64 .i64 _ _ (n / 8) rfl rfl (by omega) (by omega) (by rw [hz2]; omega) (by unfold maxLen; omega) (Nat.le_refl _) ?_; intro w1 hown hgrow)
    have hcap : (madeCells (Value.cells (.int .u8 0)) (n / 8 * 1)).toList = ints .u8 (packTo zs (n / 8) 0) := by
      rw [Nat.mul_one, packTo_zero, show ints .u8 (List.replicate (n / 8) 0) = List.replicate (n / 8) (.int .u8 0) by simp [ints]]; exact toList_madeCells_one _ _
    have hown0 : Own w1 w.heap.size 5 (some ⟨w.heap.size, 0, none⟩) (n / 8) (n / 8) (ints .u8 (packTo zs (n / 8) 0)) := by unfold Own; rw [← hcap]; exact hown
    have hb0 : Below w.heap.size w w1 := below_of_grown hgrow (Nat.le_refl _) (fun k hk => by cases hk)
    clear hown hgrow hcap hi hz0 hz1 hz2
    go_loopw [22] (fun i wr => ∃ k : Nat, k ≤ n ∧ i = .int .i64 k ∧ AllBits (zs.take k) ∧ Own wr w.heap.size 5 (some ⟨w.heap.size, 0, none⟩) (n / 8) (n / 8) (ints .u8 (packTo zs (n / 8) k)) ∧ Below w.heap.size w wr) (fun i _ => n - (intOf i).toNat)
    case atStart => exact ⟨0, Nat.zero_le _, rfl, by simp [AllBits], hown0, hb0⟩
    case round =>
      obtain ⟨k, hk, rfl, hbits, hown, hb⟩ := hrel
      by_cases hlt : k < n
      · obtain ⟨b, o, z, rfl, hbl, hx, hc⟩ := h.at_ hlt
        have hc1 := (hb.cell (p := ⟨b, o + k, none⟩) hbl).trans hc
        by_cases hz : z = 0 ∨ z = 1
        · have hps := packTo_succ zs (n / 8) k z hx
          have hsb := hbits.snoc hx hz
          obtain ⟨u, hu1, hd1, hf⟩ := hown.at_ (k := k / 8) (by omega)
          obtain ⟨p0, p1⟩ := part_bound zs k hbits
          have hpa := packTo_at zs (n / 8) k (k / 8) (by omega)
          generalize hp : val (((zs.take k).drop (8 * (k / 8))).take 8) = p at *
          rw [show (ints .u8 (packTo zs (n / 8) k))[k / 8]? = some (.int .u8 p) by simp [ints, hpa]] at hu1
          obtain rfl : Value.int .u8 p = u := by injection hu1
          have HS := Lib.hid hps
          have HB := Lib.hid hsb
          clear hu1 hps hsb hpa hp hx hc
          rcases hz with rfl | rfl
          all_goals
            go_wp2
            go_roundw
            case rel =>
              refine ⟨k + 1, by omega, by go_num, HB.out, ?_, hb.setCell (Nat.le_refl _) _⟩
              rw [HS.out, show bits .or .u8 (p * 2) _ = 2 * p + _ from or_val p _ p0 p1 (by decide), ← ints_set]
              exact hown.set_ _ _
            case measure => simp [intOf]; omega
        · have hz0 : (z == 0) = false := by simp; omega
          have hz1 : (z == 1) = false := by simp; omega
          have hz2 : (z != 0) = true := by simp; omega
          have hz3 : (z != 1) = true := by simp; omega
          have hbad : ¬ GoodBits zs := fun hg => hz (hg.2.2 z (List.mem_of_getElem? hx))
          have HB := Lib.hid hbad
          clear hbad hx hc hz
          go_wp2
          go_ret2
          exact bytesOf_no HB.out hb
      · obtain rfl : k = n := by omega
        have hgood : GoodBits zs := ⟨by rw [HL.out]; omega, by rw [HL.out]; omega, by rwa [List.take_of_length_le (by rw [HL.out]; omega)] at hbits⟩
        have HB := Lib.hid hgood
        clear hgood hbits
        go_wp2
        go_ret2
        exact bytesOf_yes HB.out HL.out hown hb
  · have hbad : ¬ GoodBits zs := fun hg => hd ⟨by have := hg.1; rw [HL.out] at this; exact this, by have := hg.2.1; rw [HL.out] at this; exact this⟩
    have HB := Lib.hid hbad
    clear hbad
    by_cases h8 : n % 8 = 0
    · have h4 : (4800 : Int) < (n : Int) := by omega
      clear hd
      go_enter Try.func16, Try.ntmps16
      go_wp2
      go_ret2
      exact bytesOf_no HB.out (Below.refl _ _)
    · clear hd
      have h8' : ((n : Int) % 8 == 0) = false := by simp; omega
      go_enter Try.func16, Try.ntmps16
      go_wp2
      go_ret2
      exact bytesOf_no HB.out (Below.refl _ _)

theorem packTo_snoc (zs : List Int) (q : Nat) : packTo zs (q + 1) zs.length = packTo zs q zs.length ++ [val ((zs.drop (8 * q)).take 8)] := by
  simp [packTo, List.range_succ]
theorem val_take_snoc (zs : List Int) (q j : Nat) (z : Int) (h : zs[8 * q + j]? = some z) : val ((zs.drop (8 * q)).take (j + 1)) = 2 * val ((zs.drop (8 * q)).take j) + z := by
  rw [show (zs.drop (8 * q)).take (j + 1) = (zs.drop (8 * q)).take j ++ [z] by rw [List.take_add_one, List.getElem?_drop, h]; rfl, val_snoc]
theorem val_part (zs : List Int) (q j : Nat) (hj : j ≤ 8) (hb : AllBits (zs.take (8 * q + j))) : 0 ≤ val ((zs.drop (8 * q)).take j) ∧ val ((zs.drop (8 * q)).take j) ≤ 255 := by
  have h1 := val_bound ((zs.drop (8 * q)).take j) (fun z hz => hb z (by
    rw [List.take_drop] at hz
    exact List.mem_of_mem_drop hz))
  have hl : ((zs.drop (8 * q)).take j).length ≤ 8 := by simp; omega
  have h2 : (((2 : Nat) ^ ((zs.drop (8 * q)).take j).length : Nat) : Int) ≤ ((2 ^ 8 : Nat) : Int) := Int.ofNat_le.2 (Nat.pow_le_pow_right (by omega) hl)
  rw [Int.natCast_pow] at h2
  have h3 := Int.lt_of_lt_of_le h1.2 h2
  exact ⟨h1.1, by omega⟩

set_option maxHeartbeats 1000000 in
theorem specBytesOf_any {A : Option Addr} {n c : Nat} {zs : List Int} {w : World} (h : Has w A n (ints .i64 zs)) (_ : I64s zs) (hn : n ≤ 16777216) :
    Calls Try.prog 18 #[.slice A n c] w fun e w' => ∃ A' n' c', e = .returned (.tuple #[.slice A' n' c', .bool (bytesOk zs)]) ∧ Own w' w.heap.size 5 A' n' c' (ints .u8 (bytesOf zs)) ∧ Below w.heap.size w w' := by
  obtain ⟨i0, hi, hz0, hz1, hz2⟩ := info_parts Try.infoU8
  have hlen := h.len
  have HL := Lib.hid hlen
  clear hlen
  by_cases hd : n % 8 = 0 ∧ n ≤ 4800
  · obtain ⟨hd8, hd4⟩ := hd
    have hdec : decide ((4800 : Int) < (n : Int)) = false := by simp; omega
    go_enter Try.func18, Try.ntmps18
    go_wp2
    go_loopw [4, 5] (fun v i wr => ∃ q A' c', 8 * q ≤ n ∧ i = .int .i64 (8 * (q : Int)) ∧ v = .slice A' q c' ∧ AllBits (zs.take (8 * q)) ∧ Own wr w.heap.size 5 A' q c' (ints .u8 (packTo zs q zs.length)) ∧ Below w.heap.size w wr) (fun _ i _ => n - (intOf i).toNat)
    case atStart => exact ⟨0, _, _, Nat.zero_le _, rfl, rfl, by simp [AllBits], World.ownsRow_lit w #[] 0 (Nat.le_refl _) (by unfold maxLen; omega) rfl, (Below.refl _ _).alloc (Nat.le_refl _) _⟩
    case round =>
      obtain ⟨q, A', c', hk, rfl, rfl, hbits, hown, hb⟩ := hrel
      by_cases hlt : 8 * q < n
      · have hge := hb.size
        have hltB : decide (8 * (q : Int) < (n : Int)) = true := by simp; omega
        go_wp2
        obtain ⟨wo, rfl⟩ : ∃ wo : World, wo = wr := ⟨_, rfl⟩
        go_loopw [6, 7] (fun v i wr => ∃ j, j ≤ 8 ∧ i = .int .i64 ((j : Nat) : Int) ∧ v = .int .i64 (val ((zs.drop (8 * q)).take j)) ∧ AllBits (zs.take (8 * q + j)) ∧ wr = wo) (fun _ i _ => 8 - (intOf i).toNat)
        case atStart => exact ⟨0, by omega, rfl, by simp [val], hbits, rfl⟩
        case round =>
          obtain ⟨j, hj, rfl, rfl, hbj, rfl⟩ := hrel
          by_cases hj8 : j < 8
          · obtain ⟨b, o, z, rfl, hbl, hx, hc⟩ := h.at_ (i := 8 * q + j) (by omega)
            have hc1 := (hb.cell (p := ⟨b, o + (8 * q + j), none⟩) hbl).trans hc
            by_cases hz : z = 0 ∨ z = 1
            · have hv := val_take_snoc zs q j z hx
              have hs := hbj.snoc hx hz
              have hvp := val_part zs q j hj hbj
              have hin : (decide ((0 : Int) ≤ z) && decide (z ≤ 1)) = true := by rcases hz with rfl | rfl <;> rfl
              generalize hp : val ((zs.drop (8 * q)).take j) = p at *
              obtain ⟨hp0, hp1⟩ := hvp
              have hzb : 0 ≤ z ∧ z ≤ 1 := by omega
              obtain ⟨hzb0, hzb1⟩ := hzb
              have HV := Lib.hid hv
              have HS := Lib.hid hs
              clear hv hs hc hx hp hz
              go_wp2_with (go_at_call 42; refine (l1In_any _ _ _ _).mono ?_; rw [hin]; rintro e w' ⟨rfl, rfl⟩)
              go_roundw
              case rel => exact ⟨j + 1, by omega, by go_num, by rw [HV.out], HS.out, by trivial⟩
              case measure => simp [intOf]; omega
            · have hin : (decide ((0 : Int) ≤ z) && decide (z ≤ 1)) = false := by simp; omega
              have hbad : ¬ GoodBits zs := fun hg => hz (hg.2.2 z (List.mem_of_getElem? hx))
              have HB := Lib.hid hbad
              clear hbad hx hc hz
              go_wp2_with (go_at_call 42; refine (l1In_any _ _ _ _).mono ?_; rw [hin]; rintro e w' ⟨rfl, rfl⟩)
              go_ret2
              exact bytesOf_no' HB.out (hb.alloc hge _) (World.ownsRow_lit wr #[] 0 hge (by unfold maxLen; omega) rfl)
          · obtain rfl : j = 8 := by omega
            have hvp := val_part zs q 8 (by omega) hbj
            have hps := packTo_snoc zs q
            generalize hp : val ((zs.drop (8 * q)).take 8) = p at *
            obtain ⟨hp0, hp1⟩ := hvp
            have HS := Lib.hid hps
            have HB := Lib.hid hbj
            clear hps hbj hp
            go_wp2_with (at_builtin; refine wpList_apps _ rfl (.tmp 47) (.tmp 50) 22 rfl w.heap.size 5 i0 (.int .u8 0) 1 Try.underlying22 hi hz0 hz1 hz2 rfl A' q c' _ rfl hown 1 1 #[.int .u8 p] rfl rfl (by simp [Value.oneCell']) (by decide) (by omega) (by decide) (by omega) ?_; intro g cap w2 hown2 hg2 hb2 _)
            go_roundw
            case rel => exact ⟨q + 1, _, _, by omega, by go_num, rfl, HB.out, by rw [HS.out, ints_app]; exact hown2, hb.trans hb2⟩
            case measure => simp [intOf]; omega
      · obtain rfl : n = 8 * q := by omega
        have hgood : GoodBits zs := ⟨by rw [HL.out]; omega, by rw [HL.out]; omega, by rwa [List.take_of_length_le (by rw [HL.out]; omega)] at hbits⟩
        have HB := Lib.hid hgood
        clear hgood hbits
        go_wp2
        go_ret2
        exact bytesOf_yes HB.out HL.out (by rw [HL.out] at hown; rwa [show 8 * q / 8 = q by omega]) hb
  · have hbad : ¬ GoodBits zs := fun hg => hd ⟨by have := hg.1; rw [HL.out] at this; exact this, by have := hg.2.1; rw [HL.out] at this; exact this⟩
    have HB := Lib.hid hbad
    clear hbad
    by_cases h8 : n % 8 = 0
    · have h4 : (4800 : Int) < (n : Int) := by omega
      clear hd
      go_enter Try.func18, Try.ntmps18
      go_wp2
      go_ret2
      exact bytesOf_no' HB.out ((Below.refl _ _).alloc (Nat.le_refl _) _) (World.ownsRow_lit w #[] 0 (Nat.le_refl _) (by unfold maxLen; omega) rfl)
    · clear hd
      have h8' : ((n : Int) % 8 == 0) = false := by simp; omega
      go_enter Try.func18, Try.ntmps18
      go_wp2
      go_ret2
      exact bytesOf_no' HB.out ((Below.refl _ _).alloc (Nat.le_refl _) _) (World.ownsRow_lit w #[] 0 (Nat.le_refl _) (by unfold maxLen; omega) rfl)
end Go.Proofs.Ytofbjpcmiohhpaa
