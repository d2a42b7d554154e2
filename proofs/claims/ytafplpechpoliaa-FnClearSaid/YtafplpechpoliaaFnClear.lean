/-
  FnClear: for every two slices of bytes the law returns true and writes nothing that was there. No condition.
-/
import Derived.Test.YtafplpechpoliaaImp4
import Derived.Test.YtafplpechpoliaaDrawFates
import Derived.Test.YtafplpechpoliaaListLaws
namespace Go.Proofs.Ytafplpechpoliaa
open Go.RowKit Go.ChangeShapes Go.WideShapes Go.ChangeAt

theorem row_clear {fs : List Int} (h : clearB fs = true) (t n : Nat) : rowArr fs t n = if t % 2 = 0 ∧ t / 2 < n then [((t / 2 : Nat) : Int)] else [] := by
  induction n with
  | zero => simp [rowArr]
  | succ n ih =>
    rw [rowArr_snoc, ih]
    have hat : atN fs n = 2 * (n : Int) := by unfold atN; rw [clear_fate h]; simp
    have hone : oneArr fs t n = if 2 * (n : Int) = (t : Int) then [(n : Int)] else [] := by unfold oneArr; rw [hat, clear_fate h]; simp
    rw [hone]
    by_cases h2 : 2 * (n : Int) = (t : Int)
    · rw [if_pos h2, if_neg (by omega), if_pos (by omega)]
      rw [show t / 2 = n by omega]; rfl
    · rw [if_neg h2, List.append_nil]
      by_cases h3 : t % 2 = 0 ∧ t / 2 < n
      · rw [if_pos h3, if_pos (by omega)]
      · rw [if_neg h3, if_neg (by omega)]
theorem arr_clear {fs : List Int} (h : clearB fs = true) (n T : Nat) : arrTo fs n T = (List.range (min ((T + 1) / 2) n)).map (fun i => ((i : Nat) : Int)) := by
  induction T with
  | zero => simp [arrTo]
  | succ T ih =>
    rw [arrTo_snoc, ih, row_clear h]
    by_cases h1 : T % 2 = 0 ∧ T / 2 < n
    · rw [if_pos h1, show min ((T + 1 + 1) / 2) n = min ((T + 1) / 2) n + 1 by omega, List.range_succ, List.map_append]
      rw [show min ((T + 1) / 2) n = T / 2 by omega]; rfl
    · rw [if_neg h1, List.append_nil, show min ((T + 1 + 1) / 2) n = min ((T + 1) / 2) n by omega]
/-- A wire that is clear hands on what is sent. -/
theorem pass_clear {fs : List Int} {l : List (List Int)} (h : clearB fs = true) : passL fs l = if listOk l then l else [] := by
  unfold passL
  by_cases hl : listOk l
  · rw [if_pos hl, if_pos hl]
    have h6 := hl.2
    have ha : arrI fs (l.length : Int) = (List.range l.length).map (fun i => ((i : Nat) : Int)) := by
      unfold arrI
      rw [if_pos ⟨clear_ok h, by omega, by omega⟩]
      unfold arrF
      rw [Int.toNat_natCast, arr_clear h, show min ((2 * l.length + 3 + 1) / 2) l.length = l.length by omega]
    rw [ha]
    apply List.ext_getElem?
    intro i
    unfold gotOf
    rw [List.map_map, List.getElem?_map]
    by_cases hi : i < l.length
    · have hp := List.getElem?_eq_getElem hi
      rw [List.getElem?_range hi, hp]
      have hg := gotN_at fs l i _ hp
      rw [if_neg (by rw [clear_fate h]; omega)] at hg
      simp only [Option.map_some, Function.comp_apply, Int.toNat_natCast]
      rw [hg]
    · rw [List.getElem?_eq_none (by simpa using hi), List.getElem?_eq_none (by simpa using hi)]; rfl
  · rw [if_neg hl, if_neg hl]

theorem wnTexts_len (A A' : Option Addr) {n c n' c' : Nat} {w : World} (h : n ≠ n') :
    Calls Try.prog 25 #[.slice A n c, .slice A' n' c'] w fun e w' => e = .returned (.bool false) ∧ w = w' := by
  have hB : ((n : Int) != (n' : Int)) = true := by simp; omega
  clear h
  go_enter Try.func25, Try.ntmps25
  go_wp2
  go_ret
  exact ⟨rfl, rfl⟩

set_option maxHeartbeats 16000000 in
set_option maxRecDepth 100000 in
theorem walk_FnClear {A0 A1 : Option Addr} {n0 c0 n1 c1 : Nat} {zs0 zs1 : List Int} {w : World} (h0 : Has w A0 n0 (ints .u8 zs0)) (hwf0 : ∀ z ∈ zs0, (Lit.int .u8 z).wf = true) (hc0 : n0 ≤ c0 ∧ c0 ≤ maxLen) (h1 : Has w A1 n1 (ints .u8 zs1)) (hwf1 : ∀ z ∈ zs1, (Lit.int .u8 z).wf = true) (hc1 : n1 ≤ c1 ∧ c1 ≤ maxLen) :
    Calls Try.prog 6 #[.slice A0 n0 c0, .slice A1 n1 c1] w fun e w' => e = .returned (.bool true) ∧ Below w.heap.size w w' := by
  have hu0 : U8s zs0 := fun z hz => u8_of_wf (hwf0 z hz)
  have hu1 : U8s zs1 := fun z hz => u8_of_wf (hwf1 z hz)
  clear hwf0 hwf1
  by_cases hn0 : n0 ≤ 1048576
  rotate_left
  · have hb0 : decide ((1048576 : Int) < (n0 : Int)) = true := by simp; omega
    go_enter Try.func6, Try.ntmps6
    go_wp2
    go_ret
    exact ⟨rfl, Below.refl _ _⟩
  have hb0 : decide ((1048576 : Int) < (n0 : Int)) = false := by simp; omega
  by_cases hn1 : n1 ≤ 1048576
  rotate_left
  · have hb1 : decide ((1048576 : Int) < (n1 : Int)) = true := by simp; omega
    go_enter Try.func6, Try.ntmps6
    go_wp2
    go_ret
    exact ⟨rfl, Below.refl _ _⟩
  have hb1 : decide ((1048576 : Int) < (n1 : Int)) = false := by simp; omega
  go_enter Try.func6, Try.ntmps6
  go_wp2_with (fail)
  refine (drawIsClear_any h0 hu0 hc0).mono ?_
  rintro e w1 h
  unfold FatO at h
  obtain ⟨A2, n2, c2, fs, rfl, O1, hf, hn2, B1⟩ := h
  have HC := Lib.hid O1.cap
  go_wp2_with (fail)
  refine (drawPassWire_any (h1.bel B1) hu1 hc1).mono ?_
  rintro e w2 h
  unfold FatL at h
  obtain ⟨A3, n3, c3, gs, B, m, d, l, rfl, _, _, _, L2, hl, hm, B2⟩ := h
  have C2 := bel_trans B1 B2
  have P2 := O1.bel B2
  have HD := Lib.hid L2.cap
  have hul : ∀ q ∈ l, U8s q := fun q hq => (hl q hq).1
  have hll : ∀ q ∈ l, q.length ≤ 16777216 := fun q hq => by have := (hl q hq).2; omega
  have HUL := Lib.hid hul
  have HLL := Lib.hid hll
  clear hl hul hll
  go_wp2_with (fail)
  refine (implIsClear_any P2.has hf.i64s (by omega) HC.out).mono ?_
  rintro e w3 ⟨rfl, B3⟩
  have C3 := bel_trans C2 B3
  have P3 := P2.bel B3
  have L3 := L2.bel B3
  go_wp2_with (fail)
  refine (specIsClear_any P3.has hf.i64s (by omega) HC.out).mono ?_
  rintro e w4 ⟨rfl, B4⟩
  have C4 := bel_trans C3 B4
  have P4 := P3.bel B4
  have L4 := L3.bel B4
  by_cases hcl : clearB fs = true
  · rw [hcl]
    have hpass := pass_clear (l := l) hcl
    clear hcl
    go_wp2_with (fail)
    refine (implPassWire_any P4.has hf.i64s (by omega) HC.out L4.has HUL.out HLL.out (by omega) HD.out).mono ?_
    rintro e w5 ⟨A5, n5, c5, rfl, O5, B5⟩
    have C5 := bel_trans C4 B5
    have P5 := P4.bel B5
    have L5 := L4.bel B5
    have hn5 : n5 ≤ 120 := by have q1 := O5.has.len; have q2 := (passL_lens fs l).1; omega
    go_wp2_with (fail)
    refine (specPassWire_any P5.has hf.i64s (by omega) HC.out L5.has HUL.out HLL.out (by omega) HD.out).mono ?_
    rintro e w6 ⟨A6, n6, c6, rfl, O6, B6⟩
    have C6 := bel_trans C5 B6
    have L6 := L5.bel B6
    have Q6 := O5.bel B6
    go_wp2_with (fail)
    refine (wnTexts_b Q6.has O6.has (by omega)).mono ?_
    rintro e w7 ⟨rfl, B7⟩
    have C7 := bel_trans C6 B7
    have L7 := L6.bel B7
    have Q7 := Q6.bel B7
    by_cases hlo : listOk l
    · rw [if_pos hlo] at hpass
      rw [hpass] at Q7
      clear hpass hlo
      go_wp2_with (fail)
      refine (wnTexts_b Q7.has L7.has (by omega)).mono ?_
      rintro e w8 ⟨rfl, B8⟩
      go_wp2
      go_ret
      exact ⟨rfl, bel_trans C7 B8⟩
    · rw [if_neg hlo] at hpass
      have h5 := Q7.has.len
      rw [hpass] at h5
      obtain rfl : n5 = 0 := by simpa using h5.symm
      have hm0 : 0 < m := by
        by_cases h0 : 0 < m
        · exact h0
        · exfalso
          have hl0 : l = [] := List.length_eq_zero_iff.1 (by have := L7.has.len; omega)
          exact hlo (by rw [hl0]; exact ⟨fun p hp => (by cases hp), Nat.zero_le _⟩)
      clear hpass hlo h5
      go_wp2_with (fail)
      refine (wnTexts_len _ _ (by omega)).mono ?_
      rintro e w8 ⟨rfl, rfl⟩
      go_wp2
      go_ret
      exact ⟨rfl, C7⟩
  · have hclf : clearB fs = false := by simpa using hcl
    rw [hclf]
    clear hcl
    go_wp2_with (fail)
    refine (specIsClear_any P4.has hf.i64s (by omega) HC.out).mono ?_
    rintro e w5 ⟨rfl, B5⟩
    rw [hclf]
    go_wp2
    go_ret
    exact ⟨rfl, bel_trans C4 B5⟩
set_option maxRecDepth 100000 in
theorem lifted_FnClear (os : Os) (started : os.Started) (H : Type) (enc : TypeId × Value → H) :
    ReturnsInHanded {} Try.checked os 6 .any (Rows.fnClearSpec.pre6 enc Try.prog Try.f6 Rows.fnClearRow.domain false) (Rows.fnClearSpec.post enc Try.prog Try.f6 false true false false) := by
  refine returnsInHanded_of_change (C := Try.checked) (by kernel_rfl) started (by kernel_rfl) Try.func6
    (ChangeSpec.witness6 (enc := enc) (C := Try.checked) false ⟨#[], #[.slice none 0 0, .slice none 0 0], []⟩ 8 (by kernel_rfl) (by kernel_rfl) (by kernel_rfl) (by kernel_rfl)) ?_
  intro W base args ds gs before hval0 hW hcnd _
  have hval : ∀ (j : Nat) t v, Try.f6.params[j]? = some t → args[j]? = some v → Value.okWide Try.prog W .any base t v := hval0
  have hW' := hW
  obtain ⟨p, q, hA0, hV, rfl, hfz, hnd⟩ := hW
  have hA : DataW.TrodAll enc Try.prog W 0 (fun _ => true) true Try.f6.params.toList args.toList ds p := hA0
  rw [Try.params6] at hA hval
  obtain ⟨v0, vs0, d0, ds0, p0, q0, hargs, rfl, rfl, h0, r0⟩ := trodAll_cons hA
  obtain ⟨v1, vs1, d1, ds1, p1, q1, rfl, rfl, rfl, h1, r1⟩ := trodAll_cons r0
  obtain ⟨rfl, rfl, rfl⟩ := trodAll_nil r1
  obtain rfl : args = #[v0, v1] := by cases args; simp_all
  obtain ⟨rfl, rfl⟩ := trodVars_none hV
  obtain ⟨a0, len0, cap0, rfl⟩ := okWide_slice Try.underlying22 (hval 0 22 v0 rfl rfl)
  have k0 := h0
  have lt0 : ∀ x ∈ p0, x.block < W.heap.size := by obtain ⟨m, hm⟩ := k0; exact DataW.trod_lt m _ _ _ hm
  obtain ⟨z0, H0, U0, M0⟩ := has_of_trod (k := .u8) Try.underlying22 Try.underlying5 (by kernel_rfl) h0
  obtain ⟨a1, len1, cap1, rfl⟩ := okWide_slice Try.underlying22 (hval 1 22 v1 rfl rfl)
  have k1 := h1
  have lt1 : ∀ x ∈ p1, x.block < W.heap.size := by obtain ⟨m, hm⟩ := k1; exact DataW.trod_lt m _ _ _ hm
  obtain ⟨z1, H1, U1, M1⟩ := has_of_trod (k := .u8) Try.underlying22 Try.underlying5 (by kernel_rfl) h1
  clear hA0 hval0
  refine (walk_FnClear H0 U0 M0 H1 U1 M1).mono fun e W' ⟨he, bel⟩ => ?_
  subst he
  exact ⟨_, rfl, _, _, _, [], _, [], hW', trodAll_mk1 (shut_bool Try.underlying4 _), (trodAll_cons_mk (Below.trod (by kernel_rfl) (by kernel_rfl) (of_decide_eq_true (by kernel_rfl)) k0 bel lt0) (trodAll_cons_mk (Below.trod (by kernel_rfl) (by kernel_rfl) (of_decide_eq_true (by kernel_rfl)) k1 bel lt1) trodAll_mk0)), rfl, bel.frame _, fun h => by cases h⟩

theorem fnClear_holds : Rows.FnClearSaid :=
  OpenClaim.holds_of_wide 6 Try.f6 rfl rfl rfl rfl rfl rfl rfl ⟨rfl, rfl, rfl, rfl, rfl⟩ rfl rfl rfl rfl rfl (by kernel_rfl) Try.func6 (by kernel_rfl)
    (of_decide_eq_true (by kernel_rfl)) (by unfold Func.isWrapper; first | (rw [if_pos (by decide +kernel)]; kernel_rfl) | (rw [if_neg (by decide +kernel)]; exact ⟨rfl, rfl⟩))
    (fun os started H enc _ => lifted_FnClear os started H enc)
end Go.Proofs.Ytafplpechpoliaa
