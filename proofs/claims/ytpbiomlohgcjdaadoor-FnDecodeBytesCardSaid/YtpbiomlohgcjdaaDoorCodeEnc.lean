/-
  EncodeBytes of the model: what is proved here is what it returns. Condition: lengths up to 2^24.
-/
import Derived.Test.YtpbiomlohgcjdaaDoorCode
import Derived.IntWalk
import Derived.Deep.RegionLaw
import Derived.Deep.AppendLies
namespace Go.Proofs.YtpbiomlohgcjdaaDoor
open Go.RowKit

set_option maxHeartbeats 2000000 in
theorem specEncodeBytes_any {A : Option Addr} {n c : Nat} {zs : List Int} {w : World} (h : Has w A n (ints .u8 zs)) (hu : U8s zs) (hn : n ≤ 16777216) :
    Calls Tryd.prog 10 #[.slice A n c] w fun e w' => ∃ A' n' c', e = .returned (.slice A' n' c') ∧ Own w' w.heap.size 5 A' n' c' (ints .u8 (encB zs)) ∧ Below w.heap.size w w' := by
  obtain ⟨i0, hi, hz0, hz1, hz2⟩ := info_parts Tryd.infoU8
  have HL := Lib.hid h.len
  by_cases hd : n ≤ 600
  · have hdd : decide (n ≤ 600) = true := by simp [hd]
    go_enter Tryd.func10, Tryd.ntmps10
    go_wp2
    go_loopw [3, 4] (fun v i wr => ∃ k A' c', k ≤ n ∧ i = .int .i64 ((k : Nat) : Int) ∧ v = .slice A' (2 * k) c' ∧ Own wr w.heap.size 5 A' (2 * k) c' (ints .u8 (encFlat (zs.take k))) ∧ Below w.heap.size w wr) (fun _ i _ => n - (intOf i).toNat)
    case atStart => exact ⟨0, _, _, Nat.zero_le _, rfl, rfl, World.ownsRow_lit w #[] 0 (Nat.le_refl _) (by unfold maxLen; omega) rfl, (Below.refl _ _).alloc (Nat.le_refl _) _⟩
    case round =>
      obtain ⟨k, A1, c1, hk, rfl, rfl, O1, B1⟩ := hrel
      have hge := B1.size
      by_cases hlt : k < n
      · obtain ⟨b, o, z, rfl, hbl, hx, hc⟩ := h.at_ hlt
        have hc1 := (B1.cell (p := ⟨b, o + k, none⟩) hbl).trans hc
        obtain ⟨z0, z1⟩ := hu z (List.mem_of_getElem? hx)
        have HX := Lib.hid (encFlat_snoc zs k z hx)
        obtain ⟨e0, e1⟩ := encN_b (z / 16) (by omega) (by omega)
        obtain ⟨e2, e3⟩ := encN_b (z % 16) (by omega) (by omega)
        have d0 : 0 ≤ z / 16 := by omega
        have d1 : z / 16 ≤ 15 := by omega
        have hk0 : (0 : Int) ≤ (k : Int) := by omega
        have hk1 : (k : Int) < (n : Int) := by omega
        have hkB : decide ((k : Int) < (n : Int)) = true := by simp; omega
        have w1 : IntKind.i64.wrap z = z := IntWalk.i64_in _ (by omega)
        have w2 : z.tdiv 16 = z / 16 := Int.tdiv_eq_ediv_of_nonneg z0
        have w3 : IntKind.i64.wrap (z / 16) = z / 16 := IntWalk.i64_in _ (by omega)
        have w4 : z.tmod 16 = z % 16 := Int.tmod_eq_emod_of_nonneg z0
        have w5 : IntKind.i64.wrap (z % 16) = z % 16 := IntWalk.i64_in _ (by omega)
        have w6 : IntKind.u8.wrap (encN (z / 16)) = encN (z / 16) := by
          obtain ⟨a, ha⟩ := Int.eq_ofNat_of_zero_le e0
          rw [ha] at e1 ⊢; rw [u8_of]; omega
        have w7 : IntKind.u8.wrap (encN (z % 16)) = encN (z % 16) := by
          obtain ⟨a, ha⟩ := Int.eq_ofNat_of_zero_le e2
          rw [ha] at e3 ⊢; rw [u8_of]; omega
        have CC : ∀ W : World, Hid (Calls Tryd.prog 19 #[.int .i64 (z / 16)] W fun e w' => e = .returned (.int .i64 (encN (z / 16))) ∧ W = w') ∧ Hid (Calls Tryd.prog 19 #[.int .i64 (z % 16)] W fun e w' => e = .returned (.int .i64 (encN (z % 16))) ∧ W = w') := fun W => ⟨specEncodeNibble_any (n := z / 16) (by omega), specEncodeNibble_any (n := z % 16) (by omega)⟩
        have CH := Lib.hid CC
        clear hx hc CC
        go_wp2_with (go_at_call 18; refine (l1Data_any _ _ _ _ (by omega)).mono ?_; rintro e w' ⟨rfl, rfl⟩)
        have O2 : ((wr.alloc (.cells #[Value.int .u8 (encN (z / 16)), Value.int .u8 (encN (z % 16))] 5)).drew).ownsRow w.heap.size 5 1 (.slice A1 (2 * k) c1) (2 * k) (ints .u8 (encFlat (zs.take k))) := World.ownsRow.drew (World.ownsRow.alloc O1 _)
        have N2 := Lib.hid (World.news_of_block (w := (wr.alloc (.cells #[Value.int .u8 (encN (z / 16)), Value.int .u8 (encN (z % 16))] 5)).drew) (B := wr.heap.size) (cs := #[Value.int .u8 (encN (z / 16)), Value.int .u8 (encN (z % 16))]) (t := 5) (fr := (0, 0)) (heap_alloc_new wr _))
        have Z2 : w.heap.size ≤ ((wr.alloc (.cells #[Value.int .u8 (encN (z / 16)), Value.int .u8 (encN (z % 16))] 5)).drew).heap.size := by simp; omega
        go_region_law (first | ((with_reducible refine step_append_lies _ rfl (.tmp 16) (.tmp 33) 22 rfl w.heap.size 5 i0 (.int .u8 0) 1 1 Tryd.underlying22 hi hz0 hz1 hz2 ?c1 ?c2 (.slice A1 (2 * k) c1) (2 * k) (ints .u8 (encFlat (zs.take k))) rfl O2 ⟨wr.heap.size, 0, none⟩ 2 2 (#[Value.int .u8 (encN (z / 16)), Value.int .u8 (encN (z % 16))] : Array Value).toList rfl ?c3 N2.out ?c4 ?c5 ?c6 ?c7 Z2 _ rfl ?_); (case c1 => rfl); (case c2 => decide); (case c3 => rfl); (case c4 => simp [Value.oneCell']); (case c5 => decide); (case c6 => unfold maxLen; omega); (case c7 => omega); intro g cap w4 O4 G4 _ _) | (go_simp; go_at_call 19; (first | (with_reducible refine (CH.out _).1.out.mono ?_) | (with_reducible refine (CH.out _).2.out.mono ?_)); rintro e w' ⟨rfl, rfl⟩))
        all_goals
          go_wp2
          go_roundw
          case rel => exact ⟨k + 1, _, _, by omega, by go_num, rfl, by rw [HX.out, ints_app, show ints .u8 (encB1 z) = (#[Value.int .u8 (encN (z / 16)), Value.int .u8 (encN (z % 16))] : Array Value).toList from rfl]; exact O4, ((B1.alloc hge _).drew).trans (below_of_grown G4 Z2 (fun g hg => (World.ownsRow.lt O2 g hg).1))⟩
          case measure => simp [intOf]; omega
      · obtain rfl : k = n := by omega
        go_wp2
        go_ret
        refine ⟨_, _, _, rfl, ?_, B1⟩
        rw [List.take_of_length_le (by rw [HL.out]; omega)] at O1
        rw [show encB zs = encFlat zs by unfold encB; rw [if_pos (by rw [HL.out]; omega)]]
        exact O1
  · have hdd : decide (n ≤ 600) = false := by simp [hd]
    go_enter Tryd.func10, Tryd.ntmps10
    go_wp2
    go_loopw [3, 4] (fun v i wr => i = .int .i64 0 ∧ v = .slice (some ⟨w.heap.size, 0, none⟩) 0 0 ∧ wr = w.alloc (.cells #[] 5)) (fun _ i _ => n - (intOf i).toNat)
    case atStart => exact ⟨rfl, rfl, rfl⟩
    case round =>
      obtain ⟨rfl, rfl, rfl⟩ := hrel
      have hn0 : (0 : Int) < (n : Int) := by omega
      go_wp2_with (go_at_call 18; refine (l1Data_any _ _ _ _ (by omega)).mono ?_; rintro e w' ⟨rfl, rfl⟩)
      go_ret
      exact ⟨_, _, _, rfl, by rw [show encB zs = [] by unfold encB; rw [if_neg (by rw [HL.out]; omega)]]; exact World.ownsRow_lit w #[] 0 (Nat.le_refl _) (by unfold maxLen; omega) rfl, (Below.refl _ _).alloc (Nat.le_refl _) _⟩
end Go.Proofs.YtpbiomlohgcjdaaDoor
