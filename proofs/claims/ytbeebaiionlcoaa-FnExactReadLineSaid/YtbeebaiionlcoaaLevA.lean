/-
  Chapter 8's functions of the model, the first three: what is proved here is what l8Bits, LevelsOf and BitsFrom return, in memory of their own, and that they write nothing that was there. Condition: lengths up to 2^24.
-/
import Derived.Test.YtbeebaiionlcoaaMathLev
import Derived.Test.YtbeebaiionlcoaaPar
namespace Go.Proofs.Ytbeebaiionlcoaa
open Go.RowKit

theorem lit_own (w : World) : Own (w.alloc (.cells #[] 3)) w.heap.size 3 (some ⟨w.heap.size, 0, none⟩) 0 0 (ints .i64 []) := World.ownsRow_lit w #[] 0 (Nat.le_refl _) (by unfold maxLen; omega) rfl
theorem lit_own' {w wr : World} (h : w.heap.size ≤ wr.heap.size) : Own (wr.alloc (.cells #[] 3)) w.heap.size 3 (some ⟨wr.heap.size, 0, none⟩) 0 0 (ints .i64 []) := (lit_own wr).mono h
theorem lit_below (w : World) : Below w.heap.size w (w.alloc (.cells #[] 3)) := (Below.refl _ _).alloc (Nat.le_refl _) _

set_option maxHeartbeats 1000000 in
theorem l8Bits_b {A : Option Addr} {n c : Nat} {zs : List Int} {w : World} {b : Bool} (h : Has w A n (ints .i64 zs)) (hn : n ≤ 16777216) (hb : okBits zs = b) :
    Calls Try.prog 42 #[.slice A n c] w fun e w' => e = .returned (.bool b) ∧ w = w' := by
  have HL := Lib.hid h.len
  have HB := Lib.hid hb
  clear hb
  go_enter Try.func42, Try.ntmps42
  go_wp2
  go_loop [3] (fun i => ∃ k : Nat, k ≤ n ∧ i = .int .i64 k ∧ Hid (∀ f ∈ zs.take k, f = 0 ∨ f = 1)) (fun i => n - (intOf i).toNat)
  case atStart =>
    have : Hid (∀ f ∈ zs.take 0, f = 0 ∨ f = 1) := fun f hf => by simp at hf
    exact ⟨0, Nat.zero_le _, rfl, this⟩
  case round =>
    obtain ⟨k, hk, rfl, HF⟩ := hrel
    by_cases hlt : k < n
    · have hltB : decide ((k : Int) < (n : Int)) = true := by simp; omega
      obtain ⟨b, o, z, rfl, hbl, hx, hc⟩ := h.at_ hlt
      by_cases hz : z = 0 ∨ z = 1
      · have HF2 : Hid (∀ f ∈ zs.take (k + 1), f = 0 ∨ f = 1) := by
          have : ∀ f ∈ zs.take (k + 1), f = 0 ∨ f = 1 := by
            intro f hf
            rw [List.take_add_one, hx] at hf
            rcases List.mem_append.1 hf with hf | hf
            · exact HF.out f hf
            · simp at hf; subst hf; exact hz
          exact this
        have C := Lib.hid (l1In_yes z 0 1 w (by omega) (by omega))
        clear hx hz
        go_wp2_with (go_at_call 50; refine C.out.mono ?_; rintro e w' ⟨rfl, rfl⟩)
        go_round
        case rel => exact ⟨k + 1, by omega, by go_num, HF2⟩
        case measure => simp [intOf]; omega
      · have HE := Lib.hid (okBits_no (List.mem_of_getElem? hx) hz)
        have C := Lib.hid (l1In_no z 0 1 w (by omega))
        clear hx hz
        go_wp2_with (go_at_call 50; refine C.out.mono ?_; rintro e w' ⟨rfl, rfl⟩)
        go_ret
        exact ⟨ret_bool (HE.out.symm.trans HB.out), rfl⟩
    · have hltB : decide ((k : Int) < (n : Int)) = false := by simp; omega
      obtain rfl : k = n := by omega
      have HE : Hid (okBits zs = true) := by
        have h1 := HF.out
        have h2 := HL.out
        rw [List.take_of_length_le (by omega)] at h1
        exact okBits_iff.2 h1
      go_wp2
      go_ret
      exact ⟨ret_bool (HE.out.symm.trans HB.out), rfl⟩

set_option maxHeartbeats 2000000 in
theorem specLevelsOf_w {A : Option Addr} {n c : Nat} {zs : List Int} {w : World} (h : Has w A n (ints .i64 zs)) (hn : n ≤ 16777216) :
    Calls Try.prog 19 #[.slice A n c] w fun e w' => ∃ A' n' c', e = .returned (.slice A' n' c') ∧ Own w' w.heap.size 3 A' n' c' (ints .i64 (levelsL zs)) ∧ Below w.heap.size w w' := by
  obtain ⟨i0, hi, hz0, hz1, hz2⟩ := info_parts Try.infoInt
  have HL := Lib.hid h.len
  have hlen := h.len
  have B0 := lit_below w
  have O0 := lit_own w
  by_cases hb : okBits zs = true
  · have C := Lib.hid (l8Bits_b (c := c) (h.bel B0) hn hb)
    by_cases h2 : n ≤ 200
    · have h2B : decide ((2 : Int) * (n : Int) > 400) = false := by simp; omega
      have h2C : decide (400 < (2 : Int) * (n : Int)) = false := by simp; omega
      have h2W : IntKind.i64.wrap (2 * (n : Int)) = 2 * (n : Int) := IntWalk.i64_in _ (by omega)
      have HE := Lib.hid (levelsL_yes hb (by omega))
      have HBITS := Lib.hid (okBits_iff.1 hb)
      clear hb hlen
      go_enter Try.func19, Try.ntmps19
      go_wp2_with (fail)
      refine C.out.mono ?_
      rintro e w' ⟨rfl, rfl⟩
      go_wp2
      go_loopw [3, 4] (fun v t wr => ∃ (k : Nat) (A' : Option Addr) (c' : Nat), k ≤ n ∧ t = .int .i64 (k : Int) ∧ v = .slice A' (2 * k) c' ∧ Own wr w.heap.size 3 A' (2 * k) c' (ints .i64 (levelsP (zs.take k))) ∧ Below w.heap.size w wr) (fun _ t _ => n - (intOf t).toNat)
      case atStart => exact ⟨0, _, _, Nat.zero_le _, rfl, rfl, O0, B0⟩
      case round =>
        obtain ⟨k, A1, c1, hk, rfl, rfl, O1, B1⟩ := hrel
        have hge := B1.size
        by_cases hlt : k < n
        · have hltB : decide ((k : Int) < (n : Int)) = true := by simp; omega
          obtain ⟨b, o, z, rfl, hbl, hx, hc⟩ := h.at_ hlt
          have HX := Lib.hid (show levelsP (zs.take (k + 1)) = levelsP (zs.take k) ++ [z, 1 - z] by rw [List.take_add_one, hx]; exact levelsP_snoc _ _)
          have hzb := HBITS.out z (List.mem_of_getElem? hx)
          have hW : IntKind.i64.wrap (1 - z) = 1 - z := IntWalk.i64_in _ (by omega)
          have k0 := (B1.cell (p := ⟨b, o + k, none⟩) hbl).trans hc
          have O2 : ((wr.alloc (.cells #[Value.int .i64 z, Value.int .i64 (1 - z)] 3)).drew).ownsRow w.heap.size 3 1 (.slice A1 (2 * k) c1) (2 * k) (ints .i64 (levelsP (zs.take k))) := World.ownsRow.drew (World.ownsRow.alloc O1 _)
          have N2 := Lib.hid (World.news_of_block (w := (wr.alloc (.cells #[Value.int .i64 z, Value.int .i64 (1 - z)] 3)).drew) (B := wr.heap.size) (cs := #[Value.int .i64 z, Value.int .i64 (1 - z)]) (t := 3) (fr := (0, 0)) (heap_alloc_new wr _))
          have Z2 : w.heap.size ≤ ((wr.alloc (.cells #[Value.int .i64 z, Value.int .i64 (1 - z)] 3)).drew).heap.size := by simp; omega
          have h63 : 2 * k + 2 ≤ maxLen := by unfold maxLen; omega
          clear hx hc hzb
          go_wp2
          go_region_law ((with_reducible refine step_append_lies _ rfl (.tmp 22) (.tmp 32) 23 rfl w.heap.size 3 i0 (.int .i64 0) 1 8 Try.underlying23 hi hz0 hz1 hz2 ?c1 ?c2 (.slice A1 (2 * k) c1) (2 * k) (ints .i64 (levelsP (zs.take k))) rfl O2 ⟨wr.heap.size, 0, none⟩ 2 2 (#[Value.int .i64 z, Value.int .i64 (1 - z)] : Array Value).toList rfl ?c3 N2.out ?c4 ?c5 ?c6 ?c7 Z2 _ rfl ?_); (case c1 => rfl); (case c2 => decide); (case c3 => rfl); (case c4 => simp [Value.oneCell']); (case c5 => decide); (case c6 => exact h63); (case c7 => omega); intro g cap w4 O4 G4 _ _)
          all_goals
            go_wp2
            go_roundw
            case rel => exact ⟨k + 1, _, _, by omega, by go_num, rfl, by rw [HX.out, ints_app, show ints .i64 [z, 1 - z] = (#[Value.int .i64 z, Value.int .i64 (1 - z)] : Array Value).toList from rfl]; exact O4, ((B1.alloc hge _).drew).trans (below_of_grown G4 Z2 (fun g hg => (World.ownsRow.lt O2 g hg).1))⟩
            case measure => simp [intOf]; omega
        · have hltB : decide ((k : Int) < (n : Int)) = false := by simp; omega
          obtain rfl : k = n := by omega
          go_wp2
          go_ret
          refine ⟨_, _, _, rfl, ?_, B1⟩
          rw [List.take_of_length_le (by rw [HL.out]; omega)] at O1
          rw [HE.out]
          exact O1
    · have h2B : decide ((2 : Int) * (n : Int) > 400) = true := by simp; omega
      have h2C : decide (400 < (2 : Int) * (n : Int)) = true := by simp; omega
      have h2W : IntKind.i64.wrap (2 * (n : Int)) = 2 * (n : Int) := IntWalk.i64_in _ (by omega)
      have HE := Lib.hid (levelsL_no (zs := zs) (fun hh => h2 (by omega)))
      clear hb hlen
      go_enter Try.func19, Try.ntmps19
      go_wp2_with (fail)
      refine C.out.mono ?_
      rintro e w' ⟨rfl, rfl⟩
      go_wp2
      go_ret
      exact ⟨_, _, _, rfl, by rw [HE.out]; exact O0, B0⟩
  · have C := Lib.hid (l8Bits_b (c := c) (b := false) (h.bel B0) hn (by simpa using hb))
    have HE := Lib.hid (levelsL_no (zs := zs) (fun hh => hb hh.1))
    clear hb hlen
    go_enter Try.func19, Try.ntmps19
    go_wp2_with (fail)
    refine C.out.mono ?_
    rintro e w' ⟨rfl, rfl⟩
    go_wp2
    go_ret
    exact ⟨_, _, _, rfl, by rw [HE.out]; exact O0, B0⟩
set_option maxHeartbeats 2000000 in
theorem specBitsFrom_r {A : Option Addr} {n c : Nat} {zs : List Int} {w : World} {r : List Int × Bool} (hr : bitsFromL zs = r) (h : Has w A n (ints .i64 zs)) (hn : n ≤ 16777216) :
    Calls Try.prog 22 #[.slice A n c] w fun e w' => ∃ A' n' c', e = .returned (.tuple #[.slice A' n' c', .bool r.2]) ∧ Own w' w.heap.size 3 A' n' c' (ints .i64 r.1) ∧ Below w.heap.size w w' := by
  obtain ⟨i0, hi, hz0, hz1, hz2⟩ := info_parts Try.infoInt
  have HL := Lib.hid h.len
  have HR := Lib.hid hr
  clear hr
  have hlen := h.len
  have B0 := lit_below w
  have O0 := lit_own w
  by_cases hb : okBits zs = true
  rotate_left
  · have C := Lib.hid (l8Bits_b (c := c) (b := false) (h.bel B0) hn (by simpa using hb))
    have HE := Lib.hid (bitsFromL_no (zs := zs) (fun hh => hb hh.1))
    clear hb hlen
    obtain rfl := HE.out.symm.trans HR.out
    go_enter Try.func22, Try.ntmps22
    go_wp2_with (fail)
    refine C.out.mono ?_
    rintro e w' ⟨rfl, rfl⟩
    go_wp2
    go_ret2
    exact ⟨_, _, _, rfl, O0, B0⟩
  have C := Lib.hid (l8Bits_b (c := c) (h.bel B0) hn hb)
  by_cases h2 : n % 2 = 0
  rotate_left
  · have hoB : ((n : Int) % 2 != 0) = true := by simp; omega
    have HE := Lib.hid (bitsFromL_none (unpair_odd (zs := zs) (by omega)))
    clear hb hlen h2
    obtain rfl := HE.out.symm.trans HR.out
    go_enter Try.func22, Try.ntmps22
    go_wp2_with (fail)
    refine C.out.mono ?_
    rintro e w' ⟨rfl, rfl⟩
    go_wp2
    go_ret2
    exact ⟨_, _, _, rfl, O0, B0⟩
  have hoB : ((n : Int) % 2 != 0) = false := by simp; omega
  by_cases h4 : n ≤ 400
  rotate_left
  · have h4B : decide ((n : Int) > 400) = true := by simp; omega
    have h4C : decide (400 < (n : Int)) = true := by simp; omega
    have HE := Lib.hid (bitsFromL_no (zs := zs) (fun hh => h4 (by omega)))
    clear hb hlen h2
    obtain rfl := HE.out.symm.trans HR.out
    go_enter Try.func22, Try.ntmps22
    go_wp2_with (fail)
    refine C.out.mono ?_
    rintro e w' ⟨rfl, rfl⟩
    go_wp2
    go_ret2
    exact ⟨_, _, _, rfl, O0, B0⟩
  have h4B : decide ((n : Int) > 400) = false := by simp; omega
  have h4C : decide (400 < (n : Int)) = false := by simp; omega
  have HB := Lib.hid hb
  have HEV := Lib.hid h2
  clear hb hlen h2
  go_enter Try.func22, Try.ntmps22
  go_wp2_with (fail)
  refine C.out.mono ?_
  rintro e w' ⟨rfl, rfl⟩
  go_wp2
  go_loopw [4, 5] (fun v t wr => ∃ (k : Nat) (A' : Option Addr) (c' : Nat), 2 * k ≤ n ∧ t = .int .i64 (2 * (k : Int)) ∧ v = .slice A' k c' ∧ Own wr w.heap.size 3 A' k c' (ints .i64 (evens (zs.take (2 * k)))) ∧ Hid (∀ j, j < k → zs[2 * j]? ≠ zs[2 * j + 1]?) ∧ Below w.heap.size w wr) (fun _ t _ => n - (intOf t).toNat)
  case atStart =>
    have : Hid (∀ j, j < 0 → zs[2 * j]? ≠ zs[2 * j + 1]?) := fun j hj => by omega
    exact ⟨0, _, _, Nat.zero_le _, rfl, rfl, O0, this, B0⟩
  case round =>
    obtain ⟨k, A1, c1, hk, rfl, rfl, O1, HN, B1⟩ := hrel
    have hge := B1.size
    by_cases hlt : 2 * k < n
    · have hltB : decide (2 * (k : Int) < (n : Int)) = true := by simp; omega
      have hlt1 : 2 * k + 1 < n := by have := HEV.out; omega
      obtain ⟨b, o, x, rfl, hbl, hx, hc⟩ := h.at_ hlt
      obtain ⟨b1, o1, y, hA, _, hy, hc1⟩ := h.at_ hlt1
      injection hA with hA; injection hA with q1 q2; subst q1 q2
      have k0 := (B1.cell (p := ⟨b, o + 2 * k, none⟩) hbl).trans hc
      have k1 := (B1.cell (p := ⟨b, o + (2 * k + 1), none⟩) hbl).trans hc1
      have t1 : IntKind.i64.wrap (2 * (k : Int) + 1) = 2 * (k : Int) + 1 := IntWalk.i64_in _ (by omega)
      have t2 : IntKind.i64.wrap (2 * (k : Int) + 2) = 2 * (k : Int) + 2 := IntWalk.i64_in _ (by omega)
      have n1 : (2 * (k : Int)).toNat = 2 * k := by omega
      have n2 : (2 * (k : Int) + 1).toNat = 2 * k + 1 := by omega
      by_cases hxy : x = y
      · have hxyB : (x == y) = true := by simp [hxy]
        have HE := Lib.hid (bitsFromL_none (unpair_same (zs := zs) k (by rw [HL.out]; omega) (by rw [hx, hy, hxy])))
        clear hx hy hc hc1 hxy
        obtain rfl := HE.out.symm.trans HR.out
        go_wp2
        go_region
        all_goals
          go_wp2
          go_ret2
          exact ⟨_, _, _, rfl, lit_own' (wr := wr.drew) hge, (B1.trans (below_drewN _ 1)).alloc hge _⟩
      · have hxyB : (x == y) = false := by simp [hxy]
        have HX := Lib.hid (evens_take zs k x hx (by rw [HL.out]; omega))
        have HN2 : Hid (∀ j, j < k + 1 → zs[2 * j]? ≠ zs[2 * j + 1]?) := fun j hj => by
          by_cases hjk : j < k
          · exact HN.out j hjk
          · obtain rfl : j = k := by omega
            rw [hx, hy]; exact fun e => hxy (by injection e)
        clear hx hy hc hc1 hxy
        go_wp2
        go_region
        all_goals
          have O2 := O1.bel (below_drewN wr 1)
          have k2 : wr.drew.cell? ⟨b, o + 2 * k, none⟩ = some (.int .i64 x) := k0
          go_wp2_with (at_builtin; refine wpList_apps _ rfl (.tmp 39) (.tmp 44) 23 rfl w.heap.size 3 i0 (.int .i64 0) 8 Try.underlying23 hi hz0 hz1 hz2 rfl A1 k c1 _ rfl O2 1 1 #[.int .i64 x] rfl rfl (by simp [Value.oneCell']) (by decide) (by omega) (by decide) hge ?_; intro g3 c3 w3 O3 G3 B3 _)
          go_roundw
          case rel => exact ⟨k + 1, _, _, by omega, by go_num, rfl, by rw [show 2 * (k + 1) = 2 * k + 2 by omega, HX.out, ints_app]; exact O3, HN2, (B1.trans (below_drewN _ 1)).trans B3⟩
          case measure => simp [intOf]; omega
    · have hltB : decide (2 * (k : Int) < (n : Int)) = false := by simp; omega
      obtain rfl : n = 2 * k := by omega
      have HE := Lib.hid (bitsFromL_yes HB.out (by rw [HL.out]; omega) (unpair_evens (by rw [HL.out]; omega) (fun j hj => HN.out j (by rw [HL.out] at hj; omega))))
      obtain rfl := HE.out.symm.trans HR.out
      go_wp2
      go_ret2
      refine ⟨_, _, _, rfl, ?_, B1⟩
      rw [List.take_of_length_le (by rw [HL.out]; omega)] at O1
      exact O1
theorem specBitsFrom_w {A : Option Addr} {n c : Nat} {zs : List Int} {w : World} (h : Has w A n (ints .i64 zs)) (hn : n ≤ 16777216) :
    Calls Try.prog 22 #[.slice A n c] w fun e w' => ∃ A' n' c', e = .returned (.tuple #[.slice A' n' c', .bool (bitsFromL zs).2]) ∧ Own w' w.heap.size 3 A' n' c' (ints .i64 (bitsFromL zs).1) ∧ Below w.heap.size w w' := specBitsFrom_r rfl h hn
end Go.Proofs.Ytbeebaiionlcoaa
