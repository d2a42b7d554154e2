/-
  StuffBytes and UnstuffBytes of the program: what is proved here is what they return, and that they write nothing that was there. Condition: lengths up to 2^24.
-/
import Derived.Test.YtlgoadniaiapkaaDrawStuff
namespace Go.Proofs.Ytlgoadniaiapkaa
open Go.RowKit

set_option maxHeartbeats 2000000 in
theorem implStuffBytes_any {A : Option Addr} {n c : Nat} {zs : List Int} {w : World} (h : Has w A n (ints .u8 zs)) (hu : U8s zs) (hn : n ≤ 16777216) :
    Calls Try.prog 8 #[.slice A n c] w fun e w' => ∃ A' n' c', e = .returned (.slice A' n' c') ∧ Own w' w.heap.size 5 A' n' c' (ints .u8 (stuffB zs)) ∧ Below w.heap.size w w' := by
  obtain ⟨i0, hi, hz0, hz1, hz2⟩ := info_parts Try.infoU8
  have HL := Lib.hid h.len
  by_cases hd : n ≤ 600
  · have hdd : decide (n ≤ 600) = true := by simp [hd]
    have HE := Lib.hid (show stuffB zs = stuffF zs by unfold stuffB; rw [if_pos (by rw [HL.out]; exact hd)])
    go_enter Try.func8, Try.ntmps8
    go_wp2_with (first | (go_at_call 19; refine (isData_any _ _ _ _ (by omega)).mono ?_; rintro e w' ⟨rfl, rfl⟩) | (refine wpList_make_own _ rfl _ _ 22 rfl w.heap.size 5 i0 (.int .u8 0) 1 Try.underlying22 hi hz0 hz1 .i64 .i64 _ n rfl rfl (by omega) (by rw [hz2]; omega) (by unfold maxLen; omega) (Nat.le_refl _) ?_; intro w1 hown hgrow))
    have hb0 : Below w.heap.size w w1 := below_of_grown hgrow (Nat.le_refl _) (fun k hk => by cases hk)
    clear hgrow hdd
    go_loopw [3, 14] (fun v i wr => ∃ k A' m c', k ≤ n ∧ m ≤ 1200 ∧ i = .int .i64 ((k : Nat) : Int) ∧ v = .slice A' m c' ∧ Own wr w.heap.size 5 A' m c' (ints .u8 (stuffF (zs.take k))) ∧ Below w.heap.size w wr) (fun _ i _ => n - (intOf i).toNat)
    case atStart => exact ⟨0, _, _, _, Nat.zero_le _, by omega, rfl, rfl, hown, hb0⟩
    case round =>
      obtain ⟨k, A1, m, c1, hk, hm, rfl, rfl, O1, B1⟩ := hrel
      have hge := B1.size
      by_cases hlt : k < n
      · have hltB : decide ((k : Int) < (n : Int)) = true := by simp; omega
        obtain ⟨b, o, z, rfl, hbl, hx, hc⟩ := h.at_ hlt
        have hc1 := (B1.cell (p := ⟨b, o + k, none⟩) hbl).trans hc
        obtain ⟨z0, z1⟩ := hu z (List.mem_of_getElem? hx)
        have HX := Lib.hid (stuffF_snoc zs k z hx)
        have hm2 : m + 2 ≤ 1202 := by omega
        have HM : Hid (m + (stuff1 z).length ≤ 1200) := by
          have q1 := O1.has.len
          have q2 := (stuffF_len (zs.take (k + 1))).2
          have q3 : (zs.take (k + 1)).length ≤ 600 := by have := HL.out; simp; omega
          rw [stuffF_snoc zs k z hx, List.length_append] at q2
          have : m + (stuff1 z).length ≤ 1200 := by omega
          exact this
        clear hx hc
        by_cases h6 : z = 126
        · have h6B : (z == 126) = true := by simp [h6]
          have HS := Lib.hid (show stuff1 z = [125, 94] by unfold stuff1; rw [if_pos h6])
          clear h6
          go_wp2_with (at_builtin; refine wpList_apps _ rfl (.tmp 25) (.tmp 26) 22 rfl w.heap.size 5 i0 (.int .u8 0) 1 Try.underlying22 hi hz0 hz1 hz2 rfl A1 m c1 _ rfl O1 2 2 #[.int .u8 125, .int .u8 94] rfl rfl (by simp [Value.oneCell']) (by decide) (by omega) (by decide) (by omega) ?_; intro g cap w2 O2 G2 B2 _)
          go_roundw
          case rel => exact ⟨k + 1, _, m + 2, _, by omega, by (have := HM.out; rw [HS.out] at this; exact this), by go_num, rfl, by rw [HX.out, HS.out, ints_app]; exact O2, B1.trans B2⟩
          case measure => simp [intOf]; omega
        · have h6B : (z == 126) = false := by simp [h6]
          by_cases h5 : z = 125
          · have h5B : (z == 125) = true := by simp [h5]
            have HS := Lib.hid (show stuff1 z = [125, 93] by unfold stuff1; rw [if_neg h6, if_pos h5])
            clear h6 h5
            go_wp2_with (at_builtin; refine wpList_apps _ rfl (.tmp 30) (.tmp 31) 22 rfl w.heap.size 5 i0 (.int .u8 0) 1 Try.underlying22 hi hz0 hz1 hz2 rfl A1 m c1 _ rfl O1 2 2 #[.int .u8 125, .int .u8 93] rfl rfl (by simp [Value.oneCell']) (by decide) (by omega) (by decide) (by omega) ?_; intro g cap w2 O2 G2 B2 _)
            go_roundw
            case rel => exact ⟨k + 1, _, m + 2, _, by omega, by (have := HM.out; rw [HS.out] at this; exact this), by go_num, rfl, by rw [HX.out, HS.out, ints_app]; exact O2, B1.trans B2⟩
            case measure => simp [intOf]; omega
          · have h5B : (z == 125) = false := by simp [h5]
            have HS := Lib.hid (show stuff1 z = [z] by unfold stuff1; rw [if_neg h6, if_neg h5])
            clear h6 h5
            go_wp2_with (at_builtin; refine wpList_apps _ rfl (.tmp 19) (.tmp 21) 22 rfl w.heap.size 5 i0 (.int .u8 0) 1 Try.underlying22 hi hz0 hz1 hz2 rfl A1 m c1 _ rfl O1 1 1 #[.int .u8 z] rfl rfl (by simp [Value.oneCell']) (by decide) (by omega) (by decide) (by omega) ?_; intro g cap w2 O2 G2 B2 _)
            go_roundw
            case rel => exact ⟨k + 1, _, m + 1, _, by omega, by (have := HM.out; rw [HS.out] at this; exact this), by go_num, rfl, by rw [HX.out, HS.out, ints_app]; exact O2, B1.trans B2⟩
            case measure => simp [intOf]; omega
      · obtain rfl : k = n := by omega
        go_wp2
        go_ret
        rw [List.take_of_length_le (by rw [HL.out]; omega), ← HE.out] at O1
        exact ⟨_, _, _, rfl, O1, B1⟩
  · have hdd : decide (n ≤ 600) = false := by simp [hd]
    have HE := Lib.hid (show stuffB zs = [] by unfold stuffB; rw [if_neg (by rw [HL.out]; exact hd)])
    go_enter Try.func8, Try.ntmps8
    go_wp2_with (go_at_call 19; refine (isData_any _ _ _ _ (by omega)).mono ?_; rintro e w' ⟨rfl, rfl⟩)
    go_ret
    exact ⟨_, _, _, rfl, by rw [HE.out]; exact World.ownsRow_nil _ _ _ _, Below.refl _ _⟩

/-- What is read already is not lost. -/
theorem ust_grow (ys : List Int) : ∀ out b out' b', ys.foldl ustep (some (out, b)) = some (out', b') → out.length ≤ out'.length := by
  induction ys with
  | nil => intro out b out' b' h; simp at h; obtain ⟨rfl, rfl⟩ := h; exact Nat.le_refl _
  | cons y ys ih =>
    intro out b out' b' h
    rw [List.foldl_cons] at h
    rcases hs : ustep (some (out, b)) y with _ | ⟨o, t⟩
    · rw [hs, ustep_none] at h; cases h
    · rw [hs] at h
      have h2 := ih o t out' b' h
      have h3 : out.length ≤ o.length := by
        cases b
        · simp only [ustep] at hs
          split at hs
          · cases hs
          · split at hs <;> (simp at hs; obtain ⟨rfl, rfl⟩ := hs; simp)
        · simp only [ustep] at hs
          split at hs
          · simp at hs; obtain ⟨rfl, rfl⟩ := hs; simp
          · split at hs
            · simp at hs; obtain ⟨rfl, rfl⟩ := hs; simp
            · cases hs
      omega
theorem unstG_long {zs out : List Int} {k : Nat} {b : Bool} (h : ust (zs.take k) = some (out, b)) (hl : 600 < out.length) : unstG zs = none := by
  have h2 : zs = zs.take k ++ zs.drop k := (List.take_append_drop k zs).symm
  rcases hs : ust zs with _ | ⟨o, t⟩
  · unfold unstG; rw [hs]
  · have h3 : (zs.drop k).foldl ustep (some (out, b)) = some (o, t) := by
      rw [← hs, h2]
      unfold ust at h ⊢
      rw [List.foldl_append, ← h2, h]
    have h4 := ust_grow _ _ _ _ _ h3
    cases t
    · rw [unstG_of hs, if_neg (by omega)]
    · exact unstG_open hs

theorem signOf_94 (w : World) : Calls Try.prog 21 #[.int .u8 94] w fun e w' => e = .returned (.tuple #[.int .u8 126, .bool true]) ∧ w = w' := by
  go_enter Try.func21, Try.ntmps21
  go_wp2
  go_ret2
  exact ⟨rfl, rfl⟩
theorem signOf_93 (w : World) : Calls Try.prog 21 #[.int .u8 93] w fun e w' => e = .returned (.tuple #[.int .u8 125, .bool true]) ∧ w = w' := by
  go_enter Try.func21, Try.ntmps21
  go_wp2
  go_ret2
  exact ⟨rfl, rfl⟩
theorem signOf_no (z : Int) (h4 : z ≠ 94) (h3 : z ≠ 93) (w : World) : Calls Try.prog 21 #[.int .u8 z] w fun e w' => e = .returned (.tuple #[.int .u8 0, .bool false]) ∧ w = w' := by
  have h4B : (z == 94) = false := by simp [h4]
  have h3B : (z == 93) = false := by simp [h3]
  clear h4 h3
  go_enter Try.func21, Try.ntmps21
  go_wp2
  go_ret2
  exact ⟨rfl, rfl⟩

set_option maxHeartbeats 4000000 in
theorem implUnstuffBytes_any {A : Option Addr} {n c : Nat} {zs : List Int} {w : World} (h : Has w A n (ints .u8 zs)) (hu : U8s zs) (hn : n ≤ 16777216) :
    Calls Try.prog 10 #[.slice A n c] w fun e w' => ∃ A' n' c', e = .returned (.tuple #[.slice A' n' c', .bool (unstOk zs)]) ∧ Own w' w.heap.size 5 A' n' c' (ints .u8 (unstB zs)) ∧ Below w.heap.size w w' := by
  obtain ⟨i0, hi, hz0, hz1, hz2⟩ := info_parts Try.infoU8
  have HL := Lib.hid h.len
  go_enter Try.func10, Try.ntmps10
  go_wp2
  go_loopw [4, 5, 12] (fun v t i wr => ∃ k A' m c' out bt, k ≤ n ∧ m ≤ 600 ∧ i = .int .i64 ((k : Nat) : Int) ∧ v = .slice A' m c' ∧ t = .bool bt ∧ Own wr w.heap.size 5 A' m c' (ints .u8 out) ∧ Hid (ust (zs.take k) = some (out, bt)) ∧ Below w.heap.size w wr) (fun _ _ i _ => n - (intOf i).toNat)
  case atStart => exact ⟨0, _, 0, _, [], false, Nat.zero_le _, by omega, rfl, rfl, rfl, World.ownsRow_nil _ _ _ _, rfl, Below.refl _ _⟩
  case round =>
    obtain ⟨k, A1, m, c1, out, bt, hk, hm, rfl, rfl, rfl, O1, HU, B1⟩ := hrel
    have hge := B1.size
    by_cases hlt : k < n
    · have hltB : decide ((k : Int) < (n : Int)) = true := by simp; omega
      obtain ⟨b, o, z, rfl, hbl, hx, hc⟩ := h.at_ hlt
      have hc1 := (B1.cell (p := ⟨b, o + k, none⟩) hbl).trans hc
      obtain ⟨z0, z1⟩ := hu z (List.mem_of_getElem? hx)
      have HX := Lib.hid (ust_snoc zs k z hx)
      have hol := Lib.hid O1.has.len
      rw [HU.out] at HX
      clear hx hc
      cases bt
      · by_cases h5 : z = 125
        · subst h5
          have HX2 : Hid (ust (zs.take (k + 1)) = some (out, true)) := HX.out
          have hmB : decide (m ≤ 600) = true := by simp; omega
          go_wp2_with (go_at_call 19; refine (isData_any _ _ _ _ (by omega)).mono ?_; rintro e w' ⟨rfl, rfl⟩)
          go_roundw
          case rel => exact ⟨k + 1, _, m, _, out, true, by omega, by omega, by go_num, rfl, rfl, O1, HX2.out, B1⟩
          case measure => simp [intOf]; omega
        · have h5B : (z == 125) = false := by simp [h5]
          by_cases h6 : z = 126
          · subst h6
            have HB : Hid (unstG zs = none) := unstG_bad (k := k + 1) HX.out
            go_wp2
            go_ret2
            exact unst_no HB.out B1 (World.ownsRow_nil _ _ _ _)
          · have h6B : (z == 126) = false := by simp [h6]
            have HX3 := Lib.hid (HX.out.trans (ustep_plain h6 h5))
            clear h6 h5 HX
            by_cases h7 : m + 1 ≤ 600
            · have h7B : decide (m + 1 ≤ 600) = true := by simp [h7]
              go_wp2_with (first | (at_builtin; refine wpList_apps _ rfl (.tmp 16) (.tmp 18) 22 rfl w.heap.size 5 i0 (.int .u8 0) 1 Try.underlying22 hi hz0 hz1 hz2 rfl A1 m c1 _ rfl O1 1 1 #[.int .u8 z] rfl rfl (by simp [Value.oneCell']) (by decide) (by omega) (by decide) (by omega) ?_; intro g cap w2 O2 G2 B2 _) | (go_at_call 19; refine (isData_any _ _ _ _ (by omega)).mono ?_; rintro e w' ⟨rfl, rfl⟩))
              go_roundw
              case rel => exact ⟨k + 1, _, m + 1, _, out ++ [z], false, by omega, by omega, by go_num, rfl, rfl, by rw [ints_app]; exact O2, HX3.out, B1.trans B2⟩
              case measure => simp [intOf]; omega
            · have h7B : decide (m + 1 ≤ 600) = false := by simp [h7]
              have HB : Hid (unstG zs = none) := unstG_long (k := k + 1) HX3.out (by have := hol.out; simp; omega)
              go_wp2_with (first | (at_builtin; refine wpList_apps _ rfl (.tmp 16) (.tmp 18) 22 rfl w.heap.size 5 i0 (.int .u8 0) 1 Try.underlying22 hi hz0 hz1 hz2 rfl A1 m c1 _ rfl O1 1 1 #[.int .u8 z] rfl rfl (by simp [Value.oneCell']) (by decide) (by omega) (by decide) (by omega) ?_; intro g cap w2 O2 G2 B2 _) | (go_at_call 19; refine (isData_any _ _ _ _ (by omega)).mono ?_; rintro e w' ⟨rfl, rfl⟩))
              go_ret2
              exact unst_no HB.out (B1.trans B2) (World.ownsRow_nil _ _ _ _)
      · by_cases h4 : z = 94
        · subst h4
          have HX4 : Hid (ust (zs.take (k + 1)) = some (out ++ [126], false)) := HX.out
          by_cases h7 : m + 1 ≤ 600
          · have h7B : decide (m + 1 ≤ 600) = true := by simp [h7]
            go_wp2_with (first | (go_at_call 21; refine (signOf_94 _).mono ?_; rintro e w' ⟨rfl, rfl⟩) | (at_builtin; refine wpList_apps _ rfl (.tmp 29) (.tmp 31) 22 rfl w.heap.size 5 i0 (.int .u8 0) 1 Try.underlying22 hi hz0 hz1 hz2 rfl A1 m c1 _ rfl O1 1 1 #[.int .u8 126] rfl rfl (by simp [Value.oneCell']) (by decide) (by omega) (by decide) (by omega) ?_; intro g cap w2 O2 G2 B2 _) | (go_at_call 19; refine (isData_any _ _ _ _ (by omega)).mono ?_; rintro e w' ⟨rfl, rfl⟩))
            go_roundw
            case rel => exact ⟨k + 1, _, m + 1, _, out ++ [126], false, by omega, by omega, by go_num, rfl, rfl, by rw [ints_app]; exact O2, HX4.out, B1.trans B2⟩
            case measure => simp [intOf]; omega
          · have h7B : decide (m + 1 ≤ 600) = false := by simp [h7]
            have HB : Hid (unstG zs = none) := unstG_long (k := k + 1) HX4.out (by have := hol.out; simp; omega)
            go_wp2_with (first | (go_at_call 21; refine (signOf_94 _).mono ?_; rintro e w' ⟨rfl, rfl⟩) | (at_builtin; refine wpList_apps _ rfl (.tmp 29) (.tmp 31) 22 rfl w.heap.size 5 i0 (.int .u8 0) 1 Try.underlying22 hi hz0 hz1 hz2 rfl A1 m c1 _ rfl O1 1 1 #[.int .u8 126] rfl rfl (by simp [Value.oneCell']) (by decide) (by omega) (by decide) (by omega) ?_; intro g cap w2 O2 G2 B2 _) | (go_at_call 19; refine (isData_any _ _ _ _ (by omega)).mono ?_; rintro e w' ⟨rfl, rfl⟩))
            go_ret2
            exact unst_no HB.out (B1.trans B2) (World.ownsRow_nil _ _ _ _)
        · by_cases h3 : z = 93
          · subst h3
            have HX4 : Hid (ust (zs.take (k + 1)) = some (out ++ [125], false)) := HX.out
            by_cases h7 : m + 1 ≤ 600
            · have h7B : decide (m + 1 ≤ 600) = true := by simp [h7]
              go_wp2_with (first | (go_at_call 21; refine (signOf_93 _).mono ?_; rintro e w' ⟨rfl, rfl⟩) | (at_builtin; refine wpList_apps _ rfl (.tmp 29) (.tmp 31) 22 rfl w.heap.size 5 i0 (.int .u8 0) 1 Try.underlying22 hi hz0 hz1 hz2 rfl A1 m c1 _ rfl O1 1 1 #[.int .u8 125] rfl rfl (by simp [Value.oneCell']) (by decide) (by omega) (by decide) (by omega) ?_; intro g cap w2 O2 G2 B2 _) | (go_at_call 19; refine (isData_any _ _ _ _ (by omega)).mono ?_; rintro e w' ⟨rfl, rfl⟩))
              go_roundw
              case rel => exact ⟨k + 1, _, m + 1, _, out ++ [125], false, by omega, by omega, by go_num, rfl, rfl, by rw [ints_app]; exact O2, HX4.out, B1.trans B2⟩
              case measure => simp [intOf]; omega
            · have h7B : decide (m + 1 ≤ 600) = false := by simp [h7]
              have HB : Hid (unstG zs = none) := unstG_long (k := k + 1) HX4.out (by have := hol.out; simp; omega)
              go_wp2_with (first | (go_at_call 21; refine (signOf_93 _).mono ?_; rintro e w' ⟨rfl, rfl⟩) | (at_builtin; refine wpList_apps _ rfl (.tmp 29) (.tmp 31) 22 rfl w.heap.size 5 i0 (.int .u8 0) 1 Try.underlying22 hi hz0 hz1 hz2 rfl A1 m c1 _ rfl O1 1 1 #[.int .u8 125] rfl rfl (by simp [Value.oneCell']) (by decide) (by omega) (by decide) (by omega) ?_; intro g cap w2 O2 G2 B2 _) | (go_at_call 19; refine (isData_any _ _ _ _ (by omega)).mono ?_; rintro e w' ⟨rfl, rfl⟩))
              go_ret2
              exact unst_no HB.out (B1.trans B2) (World.ownsRow_nil _ _ _ _)
          · have HB : Hid (unstG zs = none) := unstG_bad (k := k + 1) (HX.out.trans (ustep_other h4 h3))
            have CS := Lib.hid (signOf_no z h4 h3 wr)
            clear h4 h3
            go_wp2_with (go_at_call 21; refine CS.out.mono ?_; rintro e w' ⟨rfl, rfl⟩)
            go_ret2
            exact unst_no HB.out B1 (World.ownsRow_nil _ _ _ _)
    · obtain rfl : k = n := by omega
      have hol := O1.has.len
      have h1 := HU.out
      rw [List.take_of_length_le (by rw [HL.out]; omega)] at h1
      cases bt
      · have HG : Hid (unstG zs = some out) := by
          have h2 := unstG_of h1
          rw [hol, if_pos hm] at h2
          exact h2
        clear h1 hol
        go_wp2
        go_ret2
        exact unst_yes HG.out B1 O1
      · have HB : Hid (unstG zs = none) := unstG_open h1
        clear h1 hol
        go_wp2
        go_ret2
        exact unst_no HB.out B1 (World.ownsRow_nil _ _ _ _)
end Go.Proofs.Ytlgoadniaiapkaa
