/-
  Bytes in a code that mends, of the program and of its model: what is proved here is what EncodeBytes and DecodeBytes return. Conditions: lengths up to 2^24; the two tables hold what the program's text lays.
-/
import Derived.Test.YtpbiomlohgcjdaaDoorNib
namespace Go.Proofs.YtpbiomlohgcjdaaDoor
open Go.RowKit

def encB1 (z : Int) : List Int := [encN (z / 16), encN (z % 16)]
def encFlat (zs : List Int) : List Int := zs.flatMap encB1
def encB (zs : List Int) : List Int := if zs.length ≤ 600 then encFlat zs else []
theorem encFlat_length (zs : List Int) : (encFlat zs).length = 2 * zs.length := by
  induction zs with
  | nil => rfl
  | cons z zs ih => simp only [encFlat, List.flatMap_cons, List.length_append, List.length_cons, encB1, List.length_nil] at *; omega
theorem encFlat_snoc (zs : List Int) (k : Nat) (z : Int) (h : zs[k]? = some z) : encFlat (zs.take (k + 1)) = encFlat (zs.take k) ++ encB1 z := by
  rw [List.take_add_one, h]; simp [encFlat]
theorem encN_b (n : Int) (h0 : 0 ≤ n) (h1 : n ≤ 15) : 0 ≤ encN n ∧ encN n ≤ 127 := by
  have q : ∀ n : Fin 16, 0 ≤ encN (n.val : Int) ∧ encN (n.val : Int) ≤ 127 := by decide +kernel
  have h2 := q ⟨n.toNat, by omega⟩
  rwa [show ((n.toNat : Nat) : Int) = n by omega] at h2
theorem encB_le (zs : List Int) : (encB zs).length ≤ 1200 := by
  unfold encB; split
  · rw [encFlat_length]; omega
  · simp
theorem and15 (z : Int) (h0 : 0 ≤ z) (h1 : z ≤ 255) : bits .and .u8 z 15 = z % 16 := by
  have h : ∀ n : Fin 256, bits .and .u8 (n.val : Int) 15 = (n.val : Int) % 16 := by decide +kernel
  have h2 := h ⟨z.toNat, by omega⟩
  rwa [show ((z.toNat : Nat) : Int) = z by omega] at h2

set_option maxHeartbeats 2000000 in
theorem implEncodeBytes_any {A : Option Addr} {n c : Nat} {zs : List Int} {w : World} (hT : CodesIn w) (h : Has w A n (ints .u8 zs)) (hu : U8s zs) (hn : n ≤ 16777216) :
    Calls Tryd.prog 8 #[.slice A n c] w fun e w' => ∃ A' n' c', e = .returned (.slice A' n' c') ∧ Own w' w.heap.size 5 A' n' c' (ints .u8 (encB zs)) ∧ Below w.heap.size w w' := by
  obtain ⟨i0, hi, hz0, hz1, hz2⟩ := info_parts Tryd.infoU8
  have HL := Lib.hid h.len
  by_cases hd : n ≤ 600
  · have hdd : decide (n ≤ 600) = true := by simp [hd]
    go_enter Tryd.func8, Tryd.ntmps8
    go_wp2_with (first | (go_at_call 15; refine (isData_any _ _ _ _ (by omega)).mono ?_; rintro e w' ⟨rfl, rfl⟩) | (refine wpList_make_own _ rfl _ _ 22 rfl w.heap.size 5 i0 (.int .u8 0) 1 Tryd.underlying22 hi hz0 hz1 .i64 .i64 _ (2 * n) rfl rfl (by omega) (by rw [hz2]; omega) (by unfold maxLen; omega) (Nat.le_refl _) ?_; intro w1 hown hgrow))
    have hb0 : Below w.heap.size w w1 := below_of_grown hgrow (Nat.le_refl _) (fun k hk => by cases hk)
    clear hgrow hdd
    go_loopw [3, 15] (fun v i wr => ∃ k A' c', k ≤ n ∧ i = .int .i64 ((k : Nat) : Int) ∧ v = .slice A' (2 * k) c' ∧ Own wr w.heap.size 5 A' (2 * k) c' (ints .u8 (encFlat (zs.take k))) ∧ Below w.heap.size w wr) (fun _ i _ => n - (intOf i).toNat)
    case atStart => exact ⟨0, _, _, Nat.zero_le _, rfl, rfl, hown, hb0⟩
    case round =>
      obtain ⟨k, A1, c1, hk, rfl, rfl, O1, B1⟩ := hrel
      have hge := B1.size
      by_cases hlt : k < n
      · obtain ⟨b, o, z, rfl, hbl, hx, hc⟩ := h.at_ hlt
        have hc1 := (B1.cell (p := ⟨b, o + k, none⟩) hbl).trans hc
        obtain ⟨z0, z1⟩ := hu z (List.mem_of_getElem? hx)
        have HX := Lib.hid (encFlat_snoc zs k z hx)
        have hT1 := hT.bel B1
        obtain ⟨e0, e1⟩ := encN_b (z / 16) (by omega) (by omega)
        obtain ⟨e2, e3⟩ := encN_b (z % 16) (by omega) (by omega)
        have ha := and15 z z0 z1
        have C1 := Lib.hid (implEncodeNibble_any (n := z / 16) hT1 (by omega))
        have C2 := Lib.hid (implEncodeNibble_any (n := z % 16) hT1 (by omega))
        clear hx hc
        go_wp2_with (fail)
        refine C1.out.mono ?_
        rintro e w' ⟨rfl, rfl⟩
        go_wp2_with (fail)
        refine C2.out.mono ?_
        rintro e w' ⟨rfl, rfl⟩
        have HE := Lib.hid (show encB1 z = [encN (z / 16), encN (z % 16)] from rfl)
        clear ha
        generalize encN (z / 16) = p at *
        generalize encN (z % 16) = q at *
        go_wp2_with (at_builtin; refine wpList_apps _ rfl (.tmp 19) (.tmp 30) 22 rfl w.heap.size 5 i0 (.int .u8 0) 1 Tryd.underlying22 hi hz0 hz1 hz2 rfl A1 (2 * k) c1 _ rfl O1 2 2 #[.int .u8 p, .int .u8 q] rfl rfl (by simp [Value.oneCell']) (by decide) (by omega) (by decide) (by omega) ?_; intro g cap w4 O4 G4 B4 _)
        go_roundw
        case rel => exact ⟨k + 1, _, _, by omega, by go_num, rfl, by rw [HX.out, HE.out, ints_app]; exact O4, B1.trans B4⟩
        case measure => simp [intOf]; omega
      · obtain rfl : k = n := by omega
        go_wp2
        go_ret
        refine ⟨_, _, _, rfl, ?_, B1⟩
        rw [List.take_of_length_le (by rw [HL.out]; omega)] at O1
        rw [show encB zs = encFlat zs by unfold encB; rw [if_pos (by rw [HL.out]; omega)]]
        exact O1
  · have hdd : decide (n ≤ 600) = false := by simp [hd]
    go_enter Tryd.func8, Tryd.ntmps8
    go_wp2_with (go_at_call 15; refine (isData_any _ _ _ _ (by omega)).mono ?_; rintro e w' ⟨rfl, rfl⟩)
    go_ret
    exact ⟨_, _, _, rfl, by rw [show encB zs = [] by unfold encB; rw [if_neg (by rw [HL.out]; omega)]]; exact World.ownsRow_nil _ _ _ _, Below.refl _ _⟩

end Go.Proofs.YtpbiomlohgcjdaaDoor
