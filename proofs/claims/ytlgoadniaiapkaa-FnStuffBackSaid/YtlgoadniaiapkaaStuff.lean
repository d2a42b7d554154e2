/-
  StuffBytes and UnstuffBytes of the model: what is proved here is what they return, and that they write nothing that was there. Condition: lengths up to 2^24.
-/
import Derived.Test.YtlgoadniaiapkaaMathStuff
import Derived.Test.YtlgoadniaiapkaaCore
namespace Go.Proofs.Ytlgoadniaiapkaa
open Go.RowKit

set_option maxHeartbeats 2000000 in
theorem specStuffBytes_any {A : Option Addr} {n c : Nat} {zs : List Int} {w : World} (h : Has w A n (ints .u8 zs)) (hu : U8s zs) (hn : n ≤ 16777216) :
    Calls Try.prog 9 #[.slice A n c] w fun e w' => ∃ A' n' c', e = .returned (.slice A' n' c') ∧ Own w' w.heap.size 5 A' n' c' (ints .u8 (stuffB zs)) ∧ Below w.heap.size w w' := by
  obtain ⟨i0, hi, hz0, hz1, hz2⟩ := info_parts Try.infoU8
  have HL := Lib.hid h.len
  by_cases hd : n ≤ 600
  · have hdd : decide (n ≤ 600) = true := by simp [hd]
    have HE := Lib.hid (show stuffB zs = stuffF zs by unfold stuffB; rw [if_pos (by rw [HL.out]; exact hd)])
    go_enter Try.func9, Try.ntmps9
    go_wp2
    go_loopw [3, 4] (fun v i wr => ∃ k A' m c', k ≤ n ∧ m ≤ 1200 ∧ i = .int .i64 ((k : Nat) : Int) ∧ v = .slice A' m c' ∧ Own wr w.heap.size 5 A' m c' (ints .u8 (stuffF (zs.take k))) ∧ Below w.heap.size w wr) (fun _ i _ => n - (intOf i).toNat)
    case atStart => exact ⟨0, _, 0, _, Nat.zero_le _, by omega, rfl, rfl, World.ownsRow_lit w #[] 0 (Nat.le_refl _) (by unfold maxLen; omega) rfl, (Below.refl _ _).alloc (Nat.le_refl _) _⟩
    case round =>
      obtain ⟨k, A1, m, c1, hk, hm, rfl, rfl, O1, B1⟩ := hrel
      have hge := B1.size
      by_cases hlt : k < n
      · have hltB : decide ((k : Int) < (n : Int)) = true := by simp; omega
        obtain ⟨b, o, z, rfl, hbl, hx, hc⟩ := h.at_ hlt
        have hc1 := (B1.cell (p := ⟨b, o + k, none⟩) hbl).trans hc
        obtain ⟨z0, z1⟩ := hu z (List.mem_of_getElem? hx)
        have HX := Lib.hid (stuffF_snoc zs k z hx)
        have hm2 : m + 2 ≤ 1202 := by omega
        have HM : Hid (m + (stuff1 z).length ≤ 1200) := by
          have q1 := O1.has.len
          have q2 := (stuffF_len (zs.take (k + 1))).2
          have q3 : (zs.take (k + 1)).length ≤ 600 := by have := HL.out; simp; omega
          rw [stuffF_snoc zs k z hx, List.length_append] at q2
          have : m + (stuff1 z).length ≤ 1200 := by omega
          exact this
        clear hx hc
        by_cases h6 : z = 126
        · have h6B : (z == 126) = true := by simp [h6]
          have HS := Lib.hid (show stuff1 z = [125, 94] by unfold stuff1; rw [if_pos h6])
          clear h6
          go_wp2_with (first | (go_at_call 20; refine (l1Data_any _ _ _ _ (by omega)).mono ?_; rintro e w' ⟨rfl, rfl⟩) | (at_builtin; refine wpList_apps _ rfl (.tmp 29) (.tmp 30) 22 rfl w.heap.size 5 i0 (.int .u8 0) 1 Try.underlying22 hi hz0 hz1 hz2 rfl A1 m c1 _ rfl O1 2 2 #[.int .u8 125, .int .u8 94] rfl rfl (by simp [Value.oneCell']) (by decide) (by omega) (by decide) (by omega) ?_; intro g cap w2 O2 G2 B2 _))
          go_roundw
          case rel => exact ⟨k + 1, _, m + 2, _, by omega, by (have := HM.out; rw [HS.out] at this; exact this), by go_num, rfl, by rw [HX.out, HS.out, ints_app]; exact O2, B1.trans B2⟩
          case measure => simp [intOf]; omega
        · have h6B : (z == 126) = false := by simp [h6]
          by_cases h5 : z = 125
          · have h5B : (z == 125) = true := by simp [h5]
            have HS := Lib.hid (show stuff1 z = [125, 93] by unfold stuff1; rw [if_neg h6, if_pos h5])
            clear h6 h5
            go_wp2_with (first | (go_at_call 20; refine (l1Data_any _ _ _ _ (by omega)).mono ?_; rintro e w' ⟨rfl, rfl⟩) | (at_builtin; refine wpList_apps _ rfl (.tmp 34) (.tmp 35) 22 rfl w.heap.size 5 i0 (.int .u8 0) 1 Try.underlying22 hi hz0 hz1 hz2 rfl A1 m c1 _ rfl O1 2 2 #[.int .u8 125, .int .u8 93] rfl rfl (by simp [Value.oneCell']) (by decide) (by omega) (by decide) (by omega) ?_; intro g cap w2 O2 G2 B2 _))
            go_roundw
            case rel => exact ⟨k + 1, _, m + 2, _, by omega, by (have := HM.out; rw [HS.out] at this; exact this), by go_num, rfl, by rw [HX.out, HS.out, ints_app]; exact O2, B1.trans B2⟩
            case measure => simp [intOf]; omega
          · have h5B : (z == 125) = false := by simp [h5]
            have HS := Lib.hid (show stuff1 z = [z] by unfold stuff1; rw [if_neg h6, if_neg h5])
            clear h6 h5
            go_wp2_with (first | (go_at_call 20; refine (l1Data_any _ _ _ _ (by omega)).mono ?_; rintro e w' ⟨rfl, rfl⟩) | (at_builtin; refine wpList_apps _ rfl (.tmp 20) (.tmp 25) 22 rfl w.heap.size 5 i0 (.int .u8 0) 1 Try.underlying22 hi hz0 hz1 hz2 rfl A1 m c1 _ rfl O1 1 1 #[.int .u8 z] rfl rfl (by simp [Value.oneCell']) (by decide) (by omega) (by decide) (by omega) ?_; intro g cap w2 O2 G2 B2 _))
            go_roundw
            case rel => exact ⟨k + 1, _, m + 1, _, by omega, by (have := HM.out; rw [HS.out] at this; exact this), by go_num, rfl, by rw [HX.out, HS.out, ints_app]; exact O2, B1.trans B2⟩
            case measure => simp [intOf]; omega
      · obtain rfl : k = n := by omega
        go_wp2
        go_ret
        rw [List.take_of_length_le (by rw [HL.out]; omega), ← HE.out] at O1
        exact ⟨_, _, _, rfl, O1, B1⟩
  · have hdd : decide (n ≤ 600) = false := by simp [hd]
    have hn0 : (0 : Int) < (n : Int) := by omega
    have HE := Lib.hid (show stuffB zs = [] by unfold stuffB; rw [if_neg (by rw [HL.out]; exact hd)])
    go_enter Try.func9, Try.ntmps9
    go_wp2
    go_loopw [3, 4] (fun v i wr => i = .int .i64 0 ∧ v = .slice (some ⟨w.heap.size, 0, none⟩) 0 0 ∧ wr = w.alloc (.cells #[] 5)) (fun _ i _ => n - (intOf i).toNat)
    case atStart => exact ⟨rfl, rfl, rfl⟩
    case round =>
      obtain ⟨rfl, rfl, rfl⟩ := hrel
      go_wp2_with (go_at_call 20; refine (l1Data_any _ _ _ _ (by omega)).mono ?_; rintro e w' ⟨rfl, rfl⟩)
      go_ret
      exact ⟨_, _, _, rfl, by rw [HE.out]; exact World.ownsRow_lit w #[] 0 (Nat.le_refl _) (by unfold maxLen; omega) rfl, (Below.refl _ _).alloc (Nat.le_refl _) _⟩

theorem unst_no {zs : List Int} {lo c : Nat} {A : Option Addr} {w w' : World} (hbad : unstG zs = none) (hb : Below lo w w') (ho : Own w' lo 5 A 0 c []) :
    ∃ A' n' c', Ending.returned (.tuple #[.slice A 0 c, .bool false]) = .returned (.tuple #[.slice A' n' c', .bool (unstOk zs)]) ∧ Own w' lo 5 A' n' c' (ints .u8 (unstB zs)) ∧ Below lo w w' :=
  ⟨A, 0, c, by rw [show unstOk zs = false by simp [unstOk, hbad]], by rw [show unstB zs = [] by simp [unstB, hbad]]; exact ho, hb⟩
theorem unst_yes {zs out : List Int} {lo n c : Nat} {A : Option Addr} {w w' : World} (hg : unstG zs = some out) (hb : Below lo w w') (ho : Own w' lo 5 A n c (ints .u8 out)) :
    ∃ A' n' c', Ending.returned (.tuple #[.slice A n c, .bool true]) = .returned (.tuple #[.slice A' n' c', .bool (unstOk zs)]) ∧ Own w' lo 5 A' n' c' (ints .u8 (unstB zs)) ∧ Below lo w w' :=
  ⟨A, n, c, by rw [show unstOk zs = true by simp [unstOk, hg]], by rw [show unstB zs = out by simp [unstB, hg]]; exact ho, hb⟩
theorem ustep_plain {out : List Int} {z : Int} (h6 : z ≠ 126) (h5 : z ≠ 125) : ustep (some (out, false)) z = some (out ++ [z], false) := by simp [ustep, h6, h5]
theorem ustep_flag (out : List Int) : ustep (some (out, false)) 126 = none := rfl
theorem ustep_turn (out : List Int) : ustep (some (out, false)) 125 = some (out, true) := rfl
theorem ustep_94 (out : List Int) : ustep (some (out, true)) 94 = some (out ++ [126], false) := rfl
theorem ustep_93 (out : List Int) : ustep (some (out, true)) 93 = some (out ++ [125], false) := rfl
theorem ustep_other {out : List Int} {z : Int} (h4 : z ≠ 94) (h3 : z ≠ 93) : ustep (some (out, true)) z = none := by simp [ustep, h4, h3]

set_option maxHeartbeats 4000000 in
theorem specUnstuffBytes_any {A : Option Addr} {n c : Nat} {zs : List Int} {w : World} (h : Has w A n (ints .u8 zs)) (hu : U8s zs) (hn : n ≤ 16777216) :
    Calls Try.prog 12 #[.slice A n c] w fun e w' => ∃ A' n' c', e = .returned (.tuple #[.slice A' n' c', .bool (unstOk zs)]) ∧ Own w' w.heap.size 5 A' n' c' (ints .u8 (unstB zs)) ∧ Below w.heap.size w w' := by
  obtain ⟨i0, hi, hz0, hz1, hz2⟩ := info_parts Try.infoU8
  have HL := Lib.hid h.len
  go_enter Try.func12, Try.ntmps12
  go_wp2
  go_loopw [4, 5] (fun v i wr => ∃ k A' m c' out, k ≤ n ∧ m ≤ k ∧ i = .int .i64 ((k : Nat) : Int) ∧ v = .slice A' m c' ∧ Own wr w.heap.size 5 A' m c' (ints .u8 out) ∧ Hid (ust (zs.take k) = some (out, false)) ∧ Below w.heap.size w wr) (fun _ i _ => n - (intOf i).toNat)
  case atStart => exact ⟨0, _, 0, _, [], Nat.zero_le _, by omega, rfl, rfl, World.ownsRow_lit w #[] 0 (Nat.le_refl _) (by unfold maxLen; omega) rfl, rfl, (Below.refl _ _).alloc (Nat.le_refl _) _⟩
  case round =>
    obtain ⟨k, A1, m, c1, out, hk, hm, rfl, rfl, O1, HU, B1⟩ := hrel
    have hge := B1.size
    by_cases hlt : k < n
    · have hltB : decide ((k : Int) < (n : Int)) = true := by simp; omega
      obtain ⟨b, o, z, rfl, hbl, hx, hc⟩ := h.at_ hlt
      have hc1 := (B1.cell (p := ⟨b, o + k, none⟩) hbl).trans hc
      obtain ⟨z0, z1⟩ := hu z (List.mem_of_getElem? hx)
      have HX := Lib.hid (ust_snoc zs k z hx)
      rw [HU.out] at HX
      clear hx hc
      by_cases h6 : z = 126
      · subst h6
        have HB : Hid (unstG zs = none) := unstG_bad (k := k + 1) HX.out
        go_wp2
        go_ret2
        exact unst_no HB.out (B1.alloc hge _) (World.ownsRow_lit wr #[] 0 hge (by unfold maxLen; omega) rfl)
      · have h6B : (z == 126) = false := by simp [h6]
        by_cases h5 : z = 125
        · subst h5
          have HX2 : Hid (ust (zs.take (k + 1)) = some (out, true)) := HX.out
          by_cases hlt2 : k + 1 < n
          · have hlt2B : decide ((k : Int) + 1 < (n : Int)) = true := by simp; omega
            obtain ⟨b', o', y, hA2, hbl', hy, hc'⟩ := h.at_ (i := k + 1) hlt2
            injection hA2 with hA2
            injection hA2 with e1 e2
            subst e1 e2
            have hc2 := (B1.cell (p := ⟨b, o + (k + 1), none⟩) hbl').trans hc'
            obtain ⟨y0, y1⟩ := hu y (List.mem_of_getElem? hy)
            have HY := Lib.hid (ust_snoc zs (k + 1) y hy)
            rw [HX2.out] at HY
            clear hy hc' HX
            by_cases h4 : y = 94
            · subst h4
              go_wp2_with (at_builtin; refine wpList_apps _ rfl (.tmp 48) (.tmp 49) 22 rfl w.heap.size 5 i0 (.int .u8 0) 1 Try.underlying22 hi hz0 hz1 hz2 rfl A1 m c1 _ rfl O1 1 1 #[.int .u8 126] rfl rfl (by simp [Value.oneCell']) (by decide) (by omega) (by decide) (by omega) ?_; intro g cap w2 O2 G2 B2 _)
              go_roundw
              case rel => exact ⟨k + 2, _, m + 1, _, out ++ [126], by omega, by omega, by go_num, rfl, by rw [ints_app]; exact O2, HY.out, B1.trans B2⟩
              case measure => simp [intOf]; omega
            · have h4B : (y == 94) = false := by simp [h4]
              by_cases h3 : y = 93
              · subst h3
                go_wp2_with (at_builtin; refine wpList_apps _ rfl (.tmp 67) (.tmp 68) 22 rfl w.heap.size 5 i0 (.int .u8 0) 1 Try.underlying22 hi hz0 hz1 hz2 rfl A1 m c1 _ rfl O1 1 1 #[.int .u8 125] rfl rfl (by simp [Value.oneCell']) (by decide) (by omega) (by decide) (by omega) ?_; intro g cap w2 O2 G2 B2 _)
                go_roundw
                case rel => exact ⟨k + 2, _, m + 1, _, out ++ [125], by omega, by omega, by go_num, rfl, by rw [ints_app]; exact O2, HY.out, B1.trans B2⟩
                case measure => simp [intOf]; omega
              · have h3B : (y == 93) = false := by simp [h3]
                have HB : Hid (unstG zs = none) := unstG_bad (k := k + 2) (HY.out.trans (ustep_other h4 h3))
                clear h4 h3
                go_wp2
                go_ret2
                exact unst_no HB.out (B1.alloc hge _) (World.ownsRow_lit wr #[] 0 hge (by unfold maxLen; omega) rfl)
          · have hlt2B : decide ((k : Int) + 1 < (n : Int)) = false := by simp; omega
            have HB : Hid (unstG zs = none) := by
              have h1 := HX2.out
              rw [List.take_of_length_le (by rw [HL.out]; omega)] at h1
              exact unstG_open h1
            go_wp2
            go_ret2
            exact unst_no HB.out (B1.alloc hge _) (World.ownsRow_lit wr #[] 0 hge (by unfold maxLen; omega) rfl)
        · have h5B : (z != 125) = true := by simp [h5]
          have h5B' : (z == 125) = false := by simp [h5]
          have HX3 := Lib.hid (HX.out.trans (ustep_plain h6 h5))
          clear h6 h5 HX
          go_wp2_with (at_builtin; refine wpList_apps _ rfl (.tmp 27) (.tmp 32) 22 rfl w.heap.size 5 i0 (.int .u8 0) 1 Try.underlying22 hi hz0 hz1 hz2 rfl A1 m c1 _ rfl O1 1 1 #[.int .u8 z] rfl rfl (by simp [Value.oneCell']) (by decide) (by omega) (by decide) (by omega) ?_; intro g cap w2 O2 G2 B2 _)
          go_roundw
          case rel => exact ⟨k + 1, _, m + 1, _, out ++ [z], by omega, by omega, by go_num, rfl, by rw [ints_app]; exact O2, HX3.out, B1.trans B2⟩
          case measure => simp [intOf]; omega
    · obtain rfl : k = n := by omega
      have hol := O1.has.len
      have HG : Hid (unstG zs = if m ≤ 600 then some out else none) := by
        have h1 := HU.out
        rw [List.take_of_length_le (by rw [HL.out]; omega)] at h1
        have h2 := unstG_of h1
        rw [hol] at h2
        exact h2
      by_cases h6 : m ≤ 600
      · have h6B : decide (m ≤ 600) = true := by simp [h6]
        go_wp2_with (go_at_call 20; refine (l1Data_any _ _ _ _ (by omega)).mono ?_; rintro e w' ⟨rfl, rfl⟩)
        go_ret2
        exact unst_yes (HG.out.trans (if_pos h6)) B1 O1
      · have h6B : decide (m ≤ 600) = false := by simp [h6]
        go_wp2_with (go_at_call 20; refine (l1Data_any _ _ _ _ (by omega)).mono ?_; rintro e w' ⟨rfl, rfl⟩)
        go_ret2
        exact unst_no (HG.out.trans (if_neg h6)) (B1.alloc hge _) (World.ownsRow_lit wr #[] 0 hge (by unfold maxLen; omega) rfl)
end Go.Proofs.Ytlgoadniaiapkaa
