/-
  Chapter 14's model: what is proved here is what TokensAt returns, and that it writes nothing that was there. Condition: lengths up to 2^24.
-/
import Derived.Test.YtnloejcfakcpfaaShpB
namespace Go.Proofs.Ytnloejcfakcpfaa
open Go.RowKit

/-- Tokens ahead of a step of time. -/
def TokS (r b : Int) (hs : List Duo) (x : Nat) (T : Int) : Prop := if x = 0 then T = b else T = tokAt r b hs ((x : Int) - 1)
theorem tokS_add {r b : Int} {hs : List Duo} (h : shOk r b hs) {x : Nat} {T : Int} (hT : TokS r b hs x T) : (if x = 0 then T else min b (T + r)) = tok r b (fullTo r b hs (cntT hs ((x : Int) - 1))) (x : Int) := by
  unfold TokS at hT
  by_cases h0 : x = 0
  · subst h0
    rw [if_pos rfl] at hT ⊢
    rw [show (((0 : Nat) : Int) - 1) = -1 by omega, cntT_none h.2.2, hT]
    exact (tok_zero r b).symm
  · rw [if_neg h0] at hT ⊢
    rw [hT]
    exact tok_next (by have := h.1; omega)
theorem tok_crude {r b : Int} {hs : List Duo} (h : shOk r b hs) {m : Nat} (hm : m ≤ hs.length) {t : Int} (ht : 0 ≤ t) : -50000 ≤ tok r b (fullTo r b hs m) t ∧ tok r b (fullTo r b hs m) t ≤ 100 := by
  obtain ⟨f1, f2, _⟩ := full_bound h m hm
  have hb := h.2.1
  have : 0 ≤ r * t := Int.mul_nonneg (by have := h.1; omega) ht
  unfold tok
  generalize r * t = x at *
  omega
theorem tokS_bound {r b : Int} {hs : List Duo} (h : shOk r b hs) {x : Nat} {T : Int} (hT : TokS r b hs x T) : -50000 ≤ T ∧ T ≤ 100 := by
  unfold TokS at hT
  have hb := h.2.1
  by_cases h0 : x = 0
  · rw [if_pos h0] at hT; omega
  · rw [if_neg h0] at hT
    rw [hT]
    exact tok_crude h (cntT_le _ _) (by omega)
theorem tokS_zero (r b : Int) (hs : List Duo) : TokS r b hs 0 b := by unfold TokS; rw [if_pos rfl]
theorem taken_zero (r b : Int) (hs : List Duo) (t T : Int) : T = T - takenTo r b hs t 0 := by unfold takenTo; omega
theorem taken_succ (r b : Int) (hs : List Duo) (t : Int) (i : Nat) : takenTo r b hs t (i + 1) = takenTo r b hs t i + if (dj hs i).1 = t ∧ thr r b hs i = true then (dj hs i).2 else 0 := rfl

set_option maxHeartbeats 8000000 in
theorem specTokensAt_r {A : Option Addr} {n c : Nat} {r b t v : Int} {hs : List Duo} {w : World} (h : HasD w A n hs) (hn : n ≤ 16777216) (hv : tokI r b hs t = v) :
    Calls Try.prog 31 #[.int .i64 r, .int .i64 b, .slice A n c, .int .i64 t] w fun e w' => e = .returned (.int .i64 v) ∧ Below w.heap.size w w' := by
  have HLN := Lib.hid h.1
  have HV := Lib.hid hv
  clear hv
  by_cases hok : shOk r b hs
  rotate_left
  · have C := Lib.hid (l14Fits_b (c := c) h hn (decide_eq_false hok))
    have HE := Lib.hid (show (-1 : Int) = v by rw [← HV.out]; unfold tokI; rw [if_neg (fun hh => hok hh.1)])
    clear hok
    go_enter Try.func31, Try.ntmps31
    go_wp2_with (fail)
    refine C.out.mono ?_
    rintro e w' ⟨rfl, B2⟩
    go_wp2
    go_ret
    exact ⟨ret_int HE.out, B2⟩
  have C := Lib.hid (l14Fits_b (c := c) h hn (decide_eq_true hok))
  have HOK := Lib.hid hok
  by_cases ht : 0 ≤ t ∧ t ≤ 2000
  rotate_left
  · have C2 := Lib.hid (fun W => l1In_no t 0 2000 W ht)
    have HE := Lib.hid (show (-1 : Int) = v by rw [← HV.out]; unfold tokI; rw [if_neg (fun hh => ht hh.2)])
    clear hok ht
    go_enter Try.func31, Try.ntmps31
    go_wp2_with (fail)
    refine C.out.mono ?_
    rintro e w2 ⟨rfl, B2⟩
    go_wp2_with (fail)
    refine (C2.out _).mono ?_
    rintro e w' ⟨rfl, rfl⟩
    go_wp2
    go_ret
    exact ⟨ret_int HE.out, B2⟩
  have C2 := Lib.hid (fun W => l1In_yes t 0 2000 W ht.1 ht.2)
  obtain ⟨tn, rfl⟩ := Int.eq_ofNat_of_zero_le ht.1
  have ht2 : tn ≤ 2000 := by omega
  have HE := Lib.hid (show tokAt r b hs (tn : Int) = v by rw [← HV.out]; unfold tokI; rw [if_pos ⟨hok, ht⟩])
  obtain ⟨L, hL⟩ : ∃ L, polI r b hs = L := ⟨_, rfl⟩
  have HL := Lib.hid (show polTo r b hs n = L by rw [← hL, ← HLN.out]; unfold polI; rw [if_pos hok])
  have HLL := Lib.hid hL
  have hr := hok.1
  have hb := hok.2.1
  have HT0 : Hid (TokS r b hs 0 b) := tokS_zero r b hs
  clear hok ht hL
  go_enter Try.func31, Try.ntmps31
  go_wp2_with (fail)
  refine C.out.mono ?_
  rintro e w2 ⟨rfl, B2⟩
  go_wp2_with (fail)
  refine (C2.out _).mono ?_
  rintro e w2 ⟨rfl, rfl⟩
  have C3 := Lib.hid (specPolicePulses_r (c := c) (h.bel B2) hn HLL.out)
  go_wp2_with (fail)
  refine C3.out.mono ?_
  rintro e w3 ⟨A', n', c', rfl, O3, B3⟩
  have h3 := (h.bel B2).bel B3
  have H3 := O3.has
  have BB := bel_trans B2 B3
  obtain rfl : n' = n := by have := has_bools_len H3; rw [← HL.out, polTo_len] at this; omega
  have hln := HLN.out
  clear O3 B2 B3 h
  go_wp2
  go_loop [10, 11] (fun t' x' => ∃ (T : Int) (x : Nat), t' = .int .i64 T ∧ x' = .int .i64 (x : Int) ∧ x ≤ tn + 1 ∧ Hid (TokS r b hs x T)) (fun _ x' => tn + 1 - (intOf x').toNat)
  case atStart => exact ⟨b, 0, rfl, rfl, by omega, HT0⟩
  case round =>
    obtain ⟨T, x, rfl, rfl, hx, HT⟩ := hrel
    by_cases hlt : x ≤ tn
    · have l1 : decide ((x : Int) ≤ (tn : Int)) = true := decide_eq_true (by omega)
      have hTb := tokS_bound HOK.out HT.out
      have hadd := tokS_add HOK.out HT.out
      have hcrude := tok_crude HOK.out (cntT_le hs ((x : Int) - 1)) (t := (x : Int)) (by omega)
      obtain ⟨U, hU⟩ : ∃ U, tok r b (fullTo r b hs (cntT hs ((x : Int) - 1))) (x : Int) = U := ⟨_, rfl⟩
      rw [hU] at hadd hcrude
      have HU := Lib.hid hU
      have v1 : IntKind.i64.wrap (T + r) = T + r := IntWalk.i64_in _ (by omega)
      clear hU
      cases x with
      | zero =>
        rw [if_pos rfl] at hadd
        subst hadd
        have e0 : ((0 : Nat) : Int) = 0 := rfl
        rw [e0] at HU l1 ⊢
        go_wp2
        go_loop [10, 12] (fun t' x' => ∃ (T' : Int) (i : Nat), t' = .int .i64 T' ∧ x' = .int .i64 (i : Int) ∧ i ≤ n' ∧ Hid (T' = T - takenTo r b hs 0 i)) (fun _ x' => n' - (intOf x').toNat)
        case atStart =>
          have h0 : Hid (T = T - takenTo r b hs 0 0) := taken_zero r b hs 0 T
          exact ⟨T, 0, rfl, rfl, Nat.zero_le _, h0⟩
        case round =>
          obtain ⟨T', i, rfl, rfl, hi, HT'⟩ := hrel
          by_cases hil : i < n'
          · have i1 : decide ((i : Int) < (n' : Int)) = true := decide_eq_true (by omega)
            obtain ⟨bb, o, f, m, rfl, hbl, hxx, c0, c1⟩ := h3.at_ hil
            obtain ⟨b2, o2, rfl, _, c2⟩ := has_bool H3 hil
            have hdj := dj_atS hxx
            obtain ⟨p, hp⟩ : ∃ p, thr r b hs i = p := ⟨_, rfl⟩
            have hLp : L.getD i false = p := by rw [← HL.out, List.getD_eq_getElem?_getD, polTo_at _ _ _ hil, ← hp]; rfl
            rw [hLp] at c2
            have hsz := (pu_at HOK.out.2.2 (i := i) (by omega)).2
            have htk := taken_bound (r := r) (b := b) HOK.out.2.2 (t := 0) i (by omega)
            have hTv := HT'.out
            have hn60 := HOK.out.2.2.2.2
            rw [hdj] at hsz
            dsimp only at hsz
            have w1 : IntKind.i64.wrap (T' - m) = T' - m := IntWalk.i64_in _ (by omega)
            have hsucc := taken_succ r b hs 0 i
            rw [hdj, hp] at hsucc
            by_cases hf : f = 0
            · subst hf
              cases p with
              | true =>
                have HN : Hid (T' - m = T - takenTo r b hs 0 (i + 1)) := by
                  have : T' - m = T - takenTo r b hs 0 (i + 1) := by rw [hsucc, if_pos ⟨rfl, rfl⟩]; dsimp only; omega
                  exact this
                clear hxx hdj hp hLp hsz htk hTv hn60 hsucc
                go_wp2
                go_round
                case rel => exact ⟨_, i + 1, rfl, by go_num, by omega, HN⟩
                case measure => simp [intOf]; omega
              | false =>
                have HN : Hid (T' = T - takenTo r b hs 0 (i + 1)) := by
                  have : T' = T - takenTo r b hs 0 (i + 1) := by rw [hsucc, if_neg (by simp)]; omega
                  exact this
                clear hxx hdj hp hLp hsz htk hTv hn60 hsucc
                go_wp2
                go_round
                case rel => exact ⟨_, i + 1, rfl, by go_num, by omega, HN⟩
                case measure => simp [intOf]; omega
            · have f1 : (f == 0) = false := by simp [hf]
              have HN : Hid (T' = T - takenTo r b hs 0 (i + 1)) := by
                have : T' = T - takenTo r b hs 0 (i + 1) := by rw [hsucc, if_neg (fun hh => hf hh.1)]; omega
                exact this
              clear hxx hdj hp hLp hsz htk hTv hn60 hsucc hf
              go_wp2
              go_round
              case rel => exact ⟨_, i + 1, rfl, by go_num, by omega, HN⟩
              case measure => simp [intOf]; omega
          · have i1 : decide ((i : Int) < (n' : Int)) = false := decide_eq_false (by omega)
            obtain rfl : i = n' := by omega
            have HN : Hid (TokS r b hs (0 + 1) T') := by
              have : TokS r b hs (0 + 1) T' := by
                unfold TokS
                rw [if_neg (by omega), show (((0 + 1 : Nat) : Int) - 1) = 0 by omega, ← taken_all HOK.out, HT'.out, ← HU.out, hln]
              exact this
            go_wp2
            go_round
            case rel => exact ⟨_, 0 + 1, rfl, by go_num, by omega, HN⟩
            case measure => simp [intOf]
      | succ y =>
        rw [if_neg (by omega)] at hadd
        have ey : ((y + 1 : Nat) : Int) = (y : Int) + 1 := by omega
        rw [ey] at HU l1 ⊢
        have y1 : decide ((y : Int) + 1 > 0) = true := decide_eq_true (by omega)
        have y2 : decide (0 < (y : Int) + 1) = true := decide_eq_true (by omega)
        go_wp2
        go_loop [10, 12] (fun t' x' => ∃ (T' : Int) (i : Nat), t' = .int .i64 T' ∧ x' = .int .i64 (i : Int) ∧ i ≤ n' ∧ Hid (T' = U - takenTo r b hs ((y : Int) + 1) i)) (fun _ x' => n' - (intOf x').toNat)
        case atStart =>
          have h0 : Hid (U = U - takenTo r b hs ((y : Int) + 1) 0) := taken_zero r b hs _ U
          exact ⟨U, 0, rfl, rfl, Nat.zero_le _, h0⟩
        case round =>
          obtain ⟨T', i, rfl, rfl, hi, HT'⟩ := hrel
          by_cases hil : i < n'
          · have i1 : decide ((i : Int) < (n' : Int)) = true := decide_eq_true (by omega)
            obtain ⟨bb, o, f, m, rfl, hbl, hxx, c0, c1⟩ := h3.at_ hil
            obtain ⟨b2, o2, rfl, _, c2⟩ := has_bool H3 hil
            have hdj := dj_atS hxx
            obtain ⟨p, hp⟩ : ∃ p, thr r b hs i = p := ⟨_, rfl⟩
            have hLp : L.getD i false = p := by rw [← HL.out, List.getD_eq_getElem?_getD, polTo_at _ _ _ hil, ← hp]; rfl
            rw [hLp] at c2
            have hsz := (pu_at HOK.out.2.2 (i := i) (by omega)).2
            have htk := taken_bound (r := r) (b := b) HOK.out.2.2 (t := (y : Int) + 1) i (by omega)
            have hTv := HT'.out
            have hn60 := HOK.out.2.2.2.2
            rw [hdj] at hsz
            dsimp only at hsz
            have w1 : IntKind.i64.wrap (T' - m) = T' - m := IntWalk.i64_in _ (by omega)
            have hsucc := taken_succ r b hs ((y : Int) + 1) i
            rw [hdj, hp] at hsucc
            by_cases hf : f = (y : Int) + 1
            · have f1 : (f == (y : Int) + 1) = true := by simp [hf]
              cases p with
              | true =>
                have HN : Hid (T' - m = U - takenTo r b hs ((y : Int) + 1) (i + 1)) := by
                  have : T' - m = U - takenTo r b hs ((y : Int) + 1) (i + 1) := by rw [hsucc, if_pos ⟨hf, rfl⟩]; dsimp only; omega
                  exact this
                clear hxx hdj hp hLp hsz htk hTv hn60 hsucc hf
                go_wp2
                go_round
                case rel => exact ⟨_, i + 1, rfl, by go_num, by omega, HN⟩
                case measure => simp [intOf]; omega
              | false =>
                have HN : Hid (T' = U - takenTo r b hs ((y : Int) + 1) (i + 1)) := by
                  have : T' = U - takenTo r b hs ((y : Int) + 1) (i + 1) := by rw [hsucc, if_neg (by simp)]; omega
                  exact this
                clear hxx hdj hp hLp hsz htk hTv hn60 hsucc hf
                go_wp2
                go_round
                case rel => exact ⟨_, i + 1, rfl, by go_num, by omega, HN⟩
                case measure => simp [intOf]; omega
            · have f1 : (f == (y : Int) + 1) = false := by simp [hf]
              have HN : Hid (T' = U - takenTo r b hs ((y : Int) + 1) (i + 1)) := by
                have : T' = U - takenTo r b hs ((y : Int) + 1) (i + 1) := by rw [hsucc, if_neg (fun hh => hf hh.1)]; omega
                exact this
              clear hxx hdj hp hLp hsz htk hTv hn60 hsucc hf
              go_wp2
              go_round
              case rel => exact ⟨_, i + 1, rfl, by go_num, by omega, HN⟩
              case measure => simp [intOf]; omega
          · have i1 : decide ((i : Int) < (n' : Int)) = false := decide_eq_false (by omega)
            obtain rfl : i = n' := by omega
            have HN : Hid (TokS r b hs (y + 1 + 1) T') := by
              have : TokS r b hs (y + 1 + 1) T' := by
                unfold TokS
                rw [if_neg (by omega), show (((y + 1 + 1 : Nat) : Int) - 1) = (y : Int) + 1 by omega, ← taken_all HOK.out, HT'.out, ← HU.out, hln]
              exact this
            go_wp2
            go_round
            case rel => exact ⟨_, y + 1 + 1, rfl, by go_num, by omega, HN⟩
            case measure => simp [intOf]; omega
    · have l1 : decide ((x : Int) ≤ (tn : Int)) = false := decide_eq_false (by omega)
      obtain rfl : x = tn + 1 := by omega
      have HR := Lib.hid (show T = v by rw [← HE.out]; have := HT.out; unfold TokS at this; rw [if_neg (by omega), show (((tn + 1 : Nat) : Int) - 1) = (tn : Int) by omega] at this; exact this)
      have ex : ((tn + 1 : Nat) : Int) = (tn : Int) + 1 := by omega
      rw [ex] at l1 ⊢
      go_wp2
      go_ret
      exact ⟨ret_int HR.out, BB⟩
end Go.Proofs.Ytnloejcfakcpfaa
