/-
  Chapter 14's model: what is proved here is what PulsesValid, l14Fits, PolicePulses, Conforms and LeastBurst return, and that they write nothing that was there. Condition: lengths up to 2^24.
-/
import Derived.Test.YtnloejcfakcpfaaJobA
import Derived.Test.YtnloejcfakcpfaaMathShp
namespace Go.Proofs.Ytnloejcfakcpfaa
open Go.RowKit

theorem asc_succ {hs : List Duo} {k : Nat} (h : ascTo hs k) (hk : k = 0 ∨ (dj hs (k - 1)).1 ≤ (dj hs k).1) : ascTo hs (k + 1) := by
  intro i hi
  by_cases he : i = k - 1
  · subst he
    rcases hk with hk | hk
    · omega
    · rwa [show k - 1 + 1 = k by omega]
  · exact h i (by omega)
theorem asc_not {hs : List Duo} {k n : Nat} (hk : k + 1 < n) (h : ¬ (dj hs k).1 ≤ (dj hs (k + 1)).1) : ¬ ascTo hs n := fun hh => h (hh k (by omega))

set_option maxHeartbeats 4000000 in
theorem specPulsesValid_b {A : Option Addr} {n c : Nat} {hs : List Duo} {w : World} {b : Bool} (h : HasD w A n hs) (hn : n ≤ 16777216) (hb : decide (pulOk hs) = b) :
    Calls Try.prog 20 #[.slice A n c] w fun e w' => e = .returned (.bool b) ∧ Below w.heap.size w w' := by
  have HL := Lib.hid h.1
  have HB := Lib.hid hb
  clear hb
  go_enter Try.func20, Try.ntmps20
  go_wp2
  go_loopw [3] (fun t wr => ∃ k : Nat, k ≤ n ∧ t = .int .i64 (k : Int) ∧ Hid (∀ z ∈ hs.take k, puOk z) ∧ Hid (ascTo hs k) ∧ Below w.heap.size w wr) (fun t _ => n - (intOf t).toNat)
  case atStart =>
    have h1 : Hid (∀ z ∈ hs.take 0, puOk z) := fun z hz => by simp at hz
    have h2 : Hid (ascTo hs 0) := fun i hi => by omega
    exact ⟨0, Nat.zero_le _, rfl, h1, h2, Below.refl _ _⟩
  case round =>
    obtain ⟨k, hk, rfl, HA, HS, B⟩ := hrel
    have hge := B.size
    by_cases hlt : k < n
    · have hltB : decide ((k : Int) < (n : Int)) = true := by simp; omega
      obtain ⟨bb, o, f, t, hA, hbl, hx, c0, c1⟩ := (h.bel B).at_ hlt
      have HX := Lib.hid hx
      have BA := (Below.refl wr.heap.size wr).alloc (Nat.le_refl _) (.cells #[.int .i64 f, .int .i64 t] 29)
      have BE := Lib.hid (fun j : Nat => (B.trans (BA.mono hge)).trans (below_drewN (B := w.heap.size) (wr.alloc (.cells #[.int .i64 f, .int .i64 t] 29)) j))
      clear BA
      by_cases hf : 0 ≤ f ∧ f ≤ 2000
      rotate_left
      · have C1 := Lib.hid (fun W => l1In_no f 0 2000 W hf)
        have HE := Lib.hid (show decide (pulOk hs) = false from decide_eq_false fun hh => hf (hh.1 _ (List.mem_of_getElem? hx)).1)
        subst hA
        clear hx hf
        go_wp2
        go_quiet (first | (go_at_call 55; exact Calls.quiet_of_same ((C1.out _).mono (fun e w' hh => ⟨hh.1, hh.2.symm⟩))))
        go_wp2
        go_ret
        exact ⟨ret_bool (HE.out.symm.trans HB.out), BE.out _⟩
      by_cases hz : 1 ≤ t ∧ t ≤ 50
      rotate_left
      · have C1 := Lib.hid (fun W => l1In_yes f 0 2000 W hf.1 hf.2)
        have C2 := Lib.hid (fun W => l1In_no t 1 50 W hz)
        have HE := Lib.hid (show decide (pulOk hs) = false from decide_eq_false fun hh => hz (hh.1 _ (List.mem_of_getElem? hx)).2)
        subst hA
        clear hx hf hz
        go_wp2
        go_quiet (first | (go_at_call 55; first | (with_reducible exact Calls.quiet_of_same ((C1.out _).mono (fun e w2 hh => ⟨hh.1, hh.2.symm⟩))) | (with_reducible exact Calls.quiet_of_same ((C2.out _).mono (fun e w2 hh => ⟨hh.1, hh.2.symm⟩)))))
        go_wp2
        go_ret
        exact ⟨ret_bool (HE.out.symm.trans HB.out), BE.out _⟩
      have C1 := Lib.hid (fun W => l1In_yes f 0 2000 W hf.1 hf.2)
      have C2 := Lib.hid (fun W => l1In_yes t 1 50 W hz.1 hz.2)
      have HA2 : Hid (∀ z ∈ hs.take (k + 1), puOk z) := all_take HA.out hx ⟨hf, hz⟩
      cases k with
      | zero =>
        have HS2 : Hid (ascTo hs (0 + 1)) := asc_succ HS.out (.inl rfl)
        have e0 : ((0 : Nat) : Int) = 0 := rfl
        simp only [Nat.zero_mul, Nat.add_zero] at c0 c1
        subst hA
        rw [e0]
        clear hx hf hz
        go_wp2
        go_quiet (first | (go_at_call 55; first | (with_reducible exact Calls.quiet_of_same ((C1.out _).mono (fun e w2 hh => ⟨hh.1, hh.2.symm⟩))) | (with_reducible exact Calls.quiet_of_same ((C2.out _).mono (fun e w2 hh => ⟨hh.1, hh.2.symm⟩)))))
        go_wp2
        go_roundw
        case rel => exact ⟨0 + 1, by omega, by go_num, HA2, HS2, BE.out _⟩
        case measure => simp [intOf]; omega
      | succ j =>
        have ek : ((j + 1 : Nat) : Int) = (j : Int) + 1 := by omega
        have ej : ((j : Int) + 1).toNat = j + 1 := by omega
        have p1 : decide ((j : Int) + 1 > 0) = true := decide_eq_true (by omega)
        have p2 : decide (0 < (j : Int) + 1) = true := decide_eq_true (by omega)
        have p3 : decide ((j : Int) + 1 < (n : Int)) = true := decide_eq_true (by omega)
        obtain ⟨b2, o2, f2, t2, hA2, _, hx2, d0, d1⟩ := (h.bel B).at_ (i := j) (by omega)
        rw [hA] at hA2
        injection hA2 with hA2
        injection hA2 with e1 e2
        subst e1 e2
        have HX2 := Lib.hid hx2
        by_cases hle : f2 ≤ f
        · have s1 : decide (f2 > f) = false := by simp; omega
          have s2 : decide (f < f2) = false := by simp; omega
          have HS2 : Hid (ascTo hs (j + 1 + 1)) := asc_succ HS.out (.inr (by rw [show j + 1 - 1 = j by omega, dj_atS hx2, dj_atS hx]; exact hle))
          subst hA
          clear hx hf hz hx2 hle
          rw [ek]
          go_wp2
          go_quiet (first | (go_at_call 55; first | (with_reducible exact Calls.quiet_of_same ((C1.out _).mono (fun e w2 hh => ⟨hh.1, hh.2.symm⟩))) | (with_reducible exact Calls.quiet_of_same ((C2.out _).mono (fun e w2 hh => ⟨hh.1, hh.2.symm⟩)))))
          go_wp2
          go_roundw
          case rel => exact ⟨j + 1 + 1, by omega, by go_num, HA2, HS2, BE.out _⟩
          case measure => simp [intOf]; omega
        · have s1 : decide (f2 > f) = true := by simp; omega
          have s2 : decide (f < f2) = true := by simp; omega
          have HE := Lib.hid (show decide (pulOk hs) = false from decide_eq_false fun hh => asc_not (n := hs.length) (k := j) (by have := HL.out; omega) (by rw [dj_atS hx2, dj_atS hx]; exact hle) hh.2.1)
          subst hA
          clear hx hf hz hx2 hle
          rw [ek]
          go_wp2
          go_quiet (first | (go_at_call 55; first | (with_reducible exact Calls.quiet_of_same ((C1.out _).mono (fun e w2 hh => ⟨hh.1, hh.2.symm⟩))) | (with_reducible exact Calls.quiet_of_same ((C2.out _).mono (fun e w2 hh => ⟨hh.1, hh.2.symm⟩)))))
          go_wp2
          go_ret
          exact ⟨ret_bool (HE.out.symm.trans HB.out), BE.out _⟩
    · have hltB : decide ((k : Int) < (n : Int)) = false := by simp; omega
      obtain rfl : k = n := by omega
      have HE := Lib.hid (all_full HA.out HL.out)
      go_wp2
      go_ret
      refine ⟨ret_bool (Eq.trans ?_ HB.out), B⟩
      rw [decide_eq_decide]
      have h1 := HL.out
      have h2 := HS.out
      rw [← h1] at h2
      exact ⟨fun hh => ⟨HE.out, h2, by omega⟩, fun hh => by have := hh.2.2; omega⟩
set_option maxHeartbeats 2000000 in
theorem l14Fits_b {A : Option Addr} {n c : Nat} {r b : Int} {hs : List Duo} {w : World} {v : Bool} (h : HasD w A n hs) (hn : n ≤ 16777216) (hv : decide (shOk r b hs) = v) :
    Calls Try.prog 50 #[.int .i64 r, .int .i64 b, .slice A n c] w fun e w' => e = .returned (.bool v) ∧ Below w.heap.size w w' := by
  have HV := Lib.hid hv
  clear hv
  by_cases hr : 1 ≤ r ∧ r ≤ 20
  rotate_left
  · have C1 := Lib.hid (l1In_no r 1 20 w hr)
    have HE := Lib.hid (show decide (shOk r b hs) = false from decide_eq_false fun hh => hr hh.1)
    clear hr
    go_enter Try.func50, Try.ntmps50
    go_wp2_with (fail)
    refine C1.out.mono ?_
    rintro e w' ⟨rfl, rfl⟩
    go_wp2
    go_ret
    exact ⟨ret_bool (HE.out.symm.trans HV.out), Below.refl _ _⟩
  have C1 := Lib.hid (l1In_yes r 1 20 w hr.1 hr.2)
  by_cases hb : 1 ≤ b ∧ b ≤ 100
  rotate_left
  · have C2 := Lib.hid (l1In_no b 1 100 w hb)
    have HE := Lib.hid (show decide (shOk r b hs) = false from decide_eq_false fun hh => hb hh.2.1)
    clear hr hb
    go_enter Try.func50, Try.ntmps50
    go_wp2_with (fail)
    refine C1.out.mono ?_
    rintro e w' ⟨rfl, rfl⟩
    go_wp2_with (fail)
    refine C2.out.mono ?_
    rintro e w' ⟨rfl, rfl⟩
    go_wp2
    go_ret
    exact ⟨ret_bool (HE.out.symm.trans HV.out), Below.refl _ _⟩
  have C2 := Lib.hid (l1In_yes b 1 100 w hb.1 hb.2)
  have C3 := Lib.hid (specPulsesValid_b (c := c) h hn (b := v) (by rw [← HV.out, decide_eq_decide]; exact ⟨fun hh => ⟨hr, hb, hh⟩, fun hh => hh.2.2⟩))
  clear hr hb
  go_enter Try.func50, Try.ntmps50
  go_wp2_with (fail)
  refine C1.out.mono ?_
  rintro e w' ⟨rfl, rfl⟩
  go_wp2_with (fail)
  refine C2.out.mono ?_
  rintro e w' ⟨rfl, rfl⟩
  go_wp2_with (fail)
  refine C3.out.mono ?_
  rintro e w' ⟨rfl, B⟩
  go_wp2
  go_ret
  exact ⟨rfl, B⟩

theorem infoB14 : (Try.prog.info? 4).map (fun i => (i.zero, i.size, i.bytes)) = some (some (.bool false), 1, 1) := by kernel_rfl
theorem lit_ownB (w : World) : Own (w.alloc (.cells #[] 4)) w.heap.size 4 (some ⟨w.heap.size, 0, none⟩) 0 0 (bools []) := World.ownsRow_lit w #[] 0 (Nat.le_refl _) (by unfold maxLen; omega) rfl
/-- What the model holds ahead of a frame. -/
def PolS (r b : Int) (hs : List Duo) (k : Nat) (T a : Int) : Prop := T = tok r b (fullTo r b hs k) a ∧ (0 ≤ a ∧ a ≤ 2000) ∧ (k < hs.length → a ≤ (dj hs k).1)
theorem pols_zero {r b : Int} {hs : List Duo} (h : pulOk hs) : PolS r b hs 0 b 0 := ⟨(tok_zero r b).symm, ⟨Int.le_refl _, by omega⟩, fun hk => (pu_at h hk).1.1⟩
theorem pols_step {r b : Int} {hs : List Duo} (h : shOk r b hs) {k : Nat} (hk : k < hs.length) {T a f t : Int} (hp : PolS r b hs k T a) (hx : hs[k]? = some (f, t)) :
    (0 ≤ r * (f - a) ∧ r * (f - a) ≤ 40000) ∧ (-50000 ≤ T ∧ T ≤ 100) ∧ (-50000 ≤ min b (T + r * (f - a)) ∧ min b (T + r * (f - a)) ≤ 100) ∧ decide (t ≤ min b (T + r * (f - a))) = thr r b hs k ∧ PolS r b hs (k + 1) (if thr r b hs k = true then min b (T + r * (f - a)) - t else min b (T + r * (f - a))) f := by
  obtain ⟨hT, ha, hle⟩ := hp
  have e := dj_atS hx
  have hpu := pu_at h.2.2 hk
  have h1 := hle hk
  rw [e] at hpu h1
  obtain ⟨hf, ht⟩ := hpu
  dsimp only at hf ht h1
  have hr := h.1
  have hb := h.2.1
  have q0 : 0 ≤ r * (f - a) := Int.mul_nonneg (by omega) (by omega)
  have q1 : r * (f - a) ≤ 20 * 2000 := Int.mul_le_mul hr.2 (by omega) (by omega) (by omega)
  have hm := tok_on (r := r) (b := b) (f := fullTo r b hs k) (a := a) (t := f) (by omega) h1
  obtain ⟨f1, f2, _⟩ := full_bound h k (by omega)
  have T1 : -50000 ≤ T ∧ T ≤ 100 := by
    rw [hT]
    have : 0 ≤ r * a := Int.mul_nonneg (by omega) ha.1
    unfold tok
    generalize r * a = x at *
    omega
  have T2 : -50000 ≤ min b (T + r * (f - a)) ∧ min b (T + r * (f - a)) ≤ 100 := by
    generalize r * (f - a) = d at *
    omega
  have e2 : thr r b hs k = decide (t ≤ min b (T + r * (f - a))) := by
    unfold thr passB
    rw [e, hT, hm]
  refine ⟨⟨q0, by omega⟩, T1, T2, e2.symm, ?_, hf, fun hk2 => ?_⟩
  · rw [fullTo_succ, e, hT, hm]
    by_cases hp : thr r b hs k = true
    · rw [if_pos hp, if_pos hp, tok_take (by omega)]
    · rw [if_neg hp, if_neg hp]
  · have := h.2.2.2.1 k (by omega)
    rwa [e] at this
theorem pols_yes {r b : Int} {hs : List Duo} {k : Nat} {T f m : Int} (hp : PolS r b hs (k + 1) (if thr r b hs k = true then m - T else m) f) (h : thr r b hs k = true) : PolS r b hs (k + 1) (m - T) f := by rwa [if_pos h] at hp
theorem pols_no {r b : Int} {hs : List Duo} {k : Nat} {T f m : Int} (hp : PolS r b hs (k + 1) (if thr r b hs k = true then m - T else m) f) (h : thr r b hs k = false) : PolS r b hs (k + 1) m f := by rwa [if_neg (by rw [h]; simp)] at hp

set_option maxHeartbeats 4000000 in
theorem specPolicePulses_r {A : Option Addr} {n c : Nat} {r b : Int} {hs : List Duo} {w : World} {L : List Bool} (h : HasD w A n hs) (hn : n ≤ 16777216) (hL : polI r b hs = L) :
    Calls Try.prog 23 #[.int .i64 r, .int .i64 b, .slice A n c] w fun e w' => ∃ A' n' c', e = .returned (.slice A' n' c') ∧ Own w' w.heap.size 4 A' n' c' (bools L) ∧ Below w.heap.size w w' := by
  obtain ⟨i0, hi, hz0, hz1, hz2⟩ := info_parts Try.infoBool
  have HLN := Lib.hid h.1
  have HL := Lib.hid hL
  clear hL
  obtain ⟨W1, hW1⟩ : ∃ W1, w.alloc (.cells #[] 4) = W1 := ⟨_, rfl⟩
  have O1 : Own W1 w.heap.size 4 (some ⟨w.heap.size, 0, none⟩) 0 0 (bools []) := hW1 ▸ lit_ownB w
  have B1 : Below w.heap.size w W1 := hW1 ▸ below_allocJ w _
  by_cases hok : shOk r b hs
  rotate_left
  · have C := Lib.hid (l14Fits_b (c := c) (h.bel B1) hn (decide_eq_false hok))
    have HE := Lib.hid (show [] = L by rw [← HL.out]; unfold polI; rw [if_neg hok])
    clear hok
    go_enter Try.func23, Try.ntmps23
    go_wp2_with (fail)
    refine C.out.mono ?_
    rintro e w' ⟨rfl, B2⟩
    go_wp2
    go_ret
    exact ⟨_, _, _, rfl, HE.out ▸ O1.bel B2, bel_trans B1 B2⟩
  have C := Lib.hid (l14Fits_b (c := c) (h.bel B1) hn (decide_eq_true hok))
  have HE := Lib.hid (show polTo r b hs n = L by rw [← HL.out, ← HLN.out]; unfold polI; rw [if_pos hok])
  have HOK := Lib.hid hok
  have hr := hok.1
  have hb := hok.2.1
  have HP0 := Lib.hid (pols_zero (r := r) (b := b) hok.2.2)
  clear hok
  go_enter Try.func23, Try.ntmps23
  go_wp2_with (fail)
  refine C.out.mono ?_
  rintro e w2 ⟨rfl, B2⟩
  have O2 := O1.bel B2
  have BB2 := bel_trans B1 B2
  clear O1 B1 B2 hW1
  go_wp2
  go_loopw [7, 8, 9, 10] (fun v t a i wr => ∃ (k : Nat) (T f : Int) (A' : Option Addr) (c' : Nat), k ≤ n ∧ i = .int .i64 (k : Int) ∧ t = .int .i64 T ∧ a = .int .i64 f ∧ v = .slice A' k c' ∧ Hid (PolS r b hs k T f) ∧ Own wr w.heap.size 4 A' k c' (bools (polTo r b hs k)) ∧ Below w.heap.size w wr) (fun _ _ _ i _ => n - (intOf i).toNat)
  case atStart => exact ⟨0, b, 0, _, 0, Nat.zero_le _, rfl, rfl, rfl, rfl, HP0, O2, BB2⟩
  case round =>
    clear O2 BB2
    obtain ⟨k, T, a, A2, c2, hk, rfl, rfl, rfl, rfl, HP, O2, B2⟩ := hrel
    have hge := B2.size
    by_cases hlt : k < n
    · have hltB : decide ((k : Int) < (n : Int)) = true := by simp; omega
      obtain ⟨bb, o, f, t, rfl, hbl, hx, c0, c1⟩ := (h.bel B2).at_ hlt
      have HST := Lib.hid (pols_step HOK.out (by have := HLN.out; omega) HP.out hx)
      have hpu := pu_at HOK.out.2.2 (i := k) (by have := HLN.out; omega)
      rw [dj_atS hx] at hpu
      obtain ⟨hf, ht⟩ := hpu
      dsimp only at hf ht
      have ha := HP.out.2.1
      obtain ⟨d, hd⟩ : ∃ d, f - a = d := ⟨_, rfl⟩
      rw [hd] at HST
      obtain ⟨x, hxx⟩ : ∃ x, r * d = x := ⟨_, rfl⟩
      rw [hxx] at HST
      obtain ⟨y, hy⟩ : ∃ y, T + x = y := ⟨_, rfl⟩
      rw [hy] at HST
      obtain ⟨m, hm⟩ : ∃ m, min b y = m := ⟨_, rfl⟩
      rw [hm] at HST
      have s1 := HST.out.1
      have s2 := HST.out.2.1
      have s3 := HST.out.2.2.1
      have w1 : IntKind.i64.wrap (f - a) = d := by rw [hd]; exact IntWalk.i64_in _ (by omega)
      have w2 : IntKind.i64.wrap (r * d) = x := by rw [hxx]; exact IntWalk.i64_in _ (by omega)
      have w3 : IntKind.i64.wrap (T + x) = y := by rw [hy]; exact IntWalk.i64_in _ (by omega)
      have w4 : IntKind.i64.wrap (m - t) = m - t := IntWalk.i64_in _ (by omega)
      have n1 : -9223372036854775808 ≤ m - t := by omega
      have n2 : m - t ≤ 9223372036854775807 := by omega
      have HT := Lib.hid (polTo_succ r b hs k)
      obtain ⟨p, hp⟩ : ∃ p, thr r b hs k = p := ⟨_, rfl⟩
      rw [hp] at HT
      have HPP := Lib.hid hp
      have hd3 : decide (t ≤ m) = p := HST.out.2.2.2.1.trans hp
      have hge3 : decide (m ≥ t) = p := hd3
      have HPS := Lib.hid HST.out.2.2.2.2
      have HM := Lib.hid hm
      clear hx HST s1 s2 s3 hf ht ha hd hxx hy hp hr hb
      cases p with
      | true =>
        have HN : Hid (PolS r b hs (k + 1) (m - t) f) := pols_yes HPS.out HPP.out
        go_wp2_with (at_builtin; refine wpList_apps _ rfl (.tmp 59) (.tmp 61) 31 rfl w.heap.size 4 i0 (.bool false) 1 Try.underlying31 hi hz0 hz1 hz2 rfl A2 k c2 _ rfl O2 1 1 #[.bool true] rfl rfl (by simp [Value.oneCell']) (by decide) (by omega) (by decide) hge ?_; intro g5 c5 w5 O5 G5 B5 _)
        have O6 : Own w5 w.heap.size 4 (some ⟨g5, 0, none⟩) (k + 1) c5 (bools (polTo r b hs (k + 1))) := by rw [HT.out, bools_app]; exact O5
        have B6 := B2.trans B5
        go_roundw
        case rel => exact ⟨k + 1, _, _, _, _, by omega, by go_num, rfl, rfl, rfl, HN, O6, B6⟩
        case measure => simp [intOf]; omega
      | false =>
        have HN : Hid (PolS r b hs (k + 1) m f) := pols_no HPS.out HPP.out
        go_wp2_with (at_builtin; refine wpList_apps _ rfl (.tmp 59) (.tmp 61) 31 rfl w.heap.size 4 i0 (.bool false) 1 Try.underlying31 hi hz0 hz1 hz2 rfl A2 k c2 _ rfl O2 1 1 #[.bool false] rfl rfl (by simp [Value.oneCell']) (by decide) (by omega) (by decide) hge ?_; intro g5 c5 w5 O5 G5 B5 _)
        have O6 : Own w5 w.heap.size 4 (some ⟨g5, 0, none⟩) (k + 1) c5 (bools (polTo r b hs (k + 1))) := by rw [HT.out, bools_app]; exact O5
        have B6 := B2.trans B5
        go_roundw
        case rel => exact ⟨k + 1, _, _, _, _, by omega, by go_num, rfl, rfl, rfl, HN, O6, B6⟩
        case measure => simp [intOf]; omega
    · have hltB : decide ((k : Int) < (n : Int)) = false := by simp; omega
      obtain rfl : k = n := by omega
      go_wp2
      go_ret
      exact ⟨_, _, _, rfl, HE.out ▸ O2, B2⟩
end Go.Proofs.Ytnloejcfakcpfaa
