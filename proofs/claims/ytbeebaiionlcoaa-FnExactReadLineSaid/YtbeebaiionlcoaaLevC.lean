/-
  Chapter 8's functions of the model, LevelsFrom and ReadLine: what is proved here is what they return, in memory of their own, and that they write nothing that was there. Condition: lengths up to 2^24.
-/
import Derived.Test.YtbeebaiionlcoaaLevB
namespace Go.Proofs.Ytbeebaiionlcoaa
open Go.RowKit

theorem runsL_at {ts : List Int} {k : Nat} {p : Int × Nat} (h : (rle ts)[k]? = some p) : (runsL ts)[k]? = some (p.2 : Int) := by unfold runsL; rw [List.getElem?_map, h]; rfl
theorem offs_end (ts : List Int) : offs (rle ts) (rle ts).length = ts.length := by rw [offs_all, rle_flat]
theorem replicate2 (x : Int) : List.replicate 2 x = [x, x] := rfl
theorem levP_len {w : Nat} : ∀ {rs : List (Int × Nat)} {o : List Int}, levP w rs = some o → o.length ≤ 2 * rs.length
  | [], o, h => by injection h with h; subst h; exact Nat.le_refl _
  | p :: t, o, h => by
    unfold levP at h
    split at h
    · cases h
    · cases ht : levP w t with
      | none => rw [ht] at h; cases h
      | some y =>
        rw [ht] at h; injection h with h; subst h
        have := levP_len ht
        have := lasting_le p.2 w
        simp; omega

theorem has_past {w w' : World} {A1 : Option Addr} {b o n : Nat} {xs : List Value} (h : Has w (some ⟨b, o, none⟩) n xs) (hg : w.grownBy w' (A1.map (·.block))) (hne : ∀ a, A1 = some a → a.block ≠ b) : Has w' (some ⟨b, o, none⟩) n xs :=
  h.grown hg (fun a ha e => by
    injection ha with ha; subst ha
    cases A1 with
    | none => cases e
    | some a => injection e with e; exact hne a rfl e.symm)
theorem new_ne {w : World} {A1 : Option Addr} {g b : Nat} (hb : b < w.heap.size) (hne : ∀ a, A1 = some a → a.block ≠ b) (h : A1.map (·.block) = some g ∨ w.heap.size ≤ g) : g ≠ b := by
  rcases h with h | h
  · cases A1 with
    | none => cases h
    | some a => injection h with h; rw [← h]; exact hne a rfl
  · omega

set_option maxHeartbeats 8000000 in
theorem specLevelsFrom_r {A : Option Addr} {n c : Nat} {ts : List Int} {wd : Int} {r : List Int × Bool} {w : World} (hr : levelsFromL ts wd = r) (h : Has w A n (ints .i64 ts)) (hn : n ≤ 16777216) :
    Calls Try.prog 32 #[.slice A n c, .int .i64 wd] w fun e w' => ∃ A' n' c', e = .returned (.tuple #[.slice A' n' c', .bool r.2]) ∧ Own w' w.heap.size 3 A' n' c' (ints .i64 r.1) ∧ Below w.heap.size w w' := by
  obtain ⟨i0, hi, hz0, hz1, hz2⟩ := info_parts Try.infoInt
  have HL := Lib.hid h.len
  have HR := Lib.hid hr
  have hlen := h.len
  have B0 := lit_below w
  have O0 := lit_own w
  clear hr
  by_cases hb : okBits ts = true
  rotate_left
  · have C := Lib.hid (l8Bits_b (c := c) (b := false) (h.bel B0) hn (by simpa using hb))
    have HE := Lib.hid (levelsFromL_no (ts := ts) (w := wd) (fun hh => hb hh.1))
    clear hb hlen
    obtain rfl := HE.out.symm.trans HR.out
    go_enter Try.func32, Try.ntmps32
    go_wp2_with (fail)
    refine C.out.mono ?_
    rintro e w' ⟨rfl, rfl⟩
    go_wp2
    go_ret2
    exact ⟨_, _, _, rfl, O0, B0⟩
  have C := Lib.hid (l8Bits_b (c := c) (h.bel B0) hn hb)
  by_cases hwd : 1 ≤ wd ∧ wd ≤ 40
  rotate_left
  · have C2 := Lib.hid (l1In_no wd 1 40 (w.alloc (.cells #[] 3)) hwd)
    have HE := Lib.hid (levelsFromL_no (ts := ts) (w := wd) (fun hh => hwd hh.2.1))
    clear hb hlen hwd
    obtain rfl := HE.out.symm.trans HR.out
    go_enter Try.func32, Try.ntmps32
    go_wp2_with (fail)
    refine C.out.mono ?_
    rintro e w' ⟨rfl, rfl⟩
    go_wp2_with (fail)
    refine C2.out.mono ?_
    rintro e w' ⟨rfl, rfl⟩
    go_wp2
    go_ret2
    exact ⟨_, _, _, rfl, O0, B0⟩
  have C2 := Lib.hid (l1In_yes wd 1 40 (w.alloc (.cells #[] 3)) hwd.1 hwd.2)
  by_cases h4 : n ≤ 16000
  rotate_left
  · have h4B : decide ((n : Int) > 16000) = true := by simp; omega
    have h4C : decide (16000 < (n : Int)) = true := by simp; omega
    have HE := Lib.hid (levelsFromL_no (ts := ts) (w := wd) (fun hh => h4 (by omega)))
    clear hb hlen hwd
    obtain rfl := HE.out.symm.trans HR.out
    go_enter Try.func32, Try.ntmps32
    go_wp2_with (fail)
    refine C.out.mono ?_
    rintro e w' ⟨rfl, rfl⟩
    go_wp2_with (fail)
    refine C2.out.mono ?_
    rintro e w' ⟨rfl, rfl⟩
    go_wp2
    go_ret2
    exact ⟨_, _, _, rfl, O0, B0⟩
  have h4B : decide ((n : Int) > 16000) = false := by simp; omega
  have h4C : decide (16000 < (n : Int)) = false := by simp; omega
  obtain ⟨W, rfl⟩ : ∃ W : Nat, wd = (W : Int) := ⟨wd.toNat, by omega⟩
  have hW1 : 1 ≤ W := by omega
  have hW2 : W ≤ 40 := by omega
  have HB := Lib.hid hb
  have HRL := Lib.hid (rle_le ts)
  clear hb hlen hwd
  go_enter Try.func32, Try.ntmps32
  go_wp2_with (fail)
  refine C.out.mono ?_
  rintro e w' ⟨rfl, rfl⟩
  go_wp2_with (fail)
  refine C2.out.mono ?_
  rintro e w' ⟨rfl, rfl⟩
  go_wp2_with (fail)
  refine (specRunsOf_w (h.bel B0) hn).mono ?_
  rintro e w1 ⟨AR, nr, cr, rfl, OR, BR⟩
  have hnr : (rle ts).length = nr := by have := OR.has.len; rw [runsL_len] at this; exact this
  have HNR := Lib.hid hnr
  have hnr2 : nr ≤ 16000 := by have := HRL.out; have := HL.out; omega
  have s0 : w.heap.size + 1 = (w.alloc (.cells #[] 3)).heap.size := by simp
  have B1 : Below w.heap.size w w1 := bel_trans B0 BR
  have O1 : Own w1 w.heap.size 3 (some ⟨w.heap.size, 0, none⟩) 0 0 (ints .i64 []) := O0.bel BR
  have OR1 := Lib.hid OR.has
  have hRge : ∀ a, AR = some a → w.heap.size + 1 ≤ a.block := fun a ha => by subst ha; rw [s0]; exact OR.block.1
  clear hnr
  go_wp2
  go_loopw [6, 8, 9] (fun v t u wr => ∃ (k q : Nat) (A' : Option Addr) (c' : Nat) (acc : List Int), k ≤ nr ∧ q ≤ 2 * k ∧ u = .int .i64 (k : Int) ∧ t = .int .i64 (offs (rle ts) k : Int) ∧ v = .slice A' q c' ∧ Own wr w.heap.size 3 A' q c' (ints .i64 acc) ∧ Hid (levP W ((rle ts).take k) = some acc) ∧ (∀ a, A' = some a → ∀ a2, AR = some a2 → a.block ≠ a2.block) ∧ Has wr AR nr (ints .i64 (runsL ts)) ∧ Below w.heap.size w wr) (fun _ _ u _ => nr - (intOf u).toNat)
  case atStart =>
    have : Hid (levP W ((rle ts).take 0) = some []) := rfl
    exact ⟨0, 0, _, _, [], Nat.zero_le _, by omega, rfl, rfl, rfl, O1, this, fun a ha a2 ha2 => by cases ha; have := hRge a2 ha2; simp; omega, OR1.out, B1⟩
  case round =>
    obtain ⟨k, q, A1, c1, acc, hk, hq, rfl, rfl, rfl, O2, HLP, hne, HRn, B2⟩ := hrel
    have hge := B2.size
    by_cases hlt : k < nr
    · have hltB : decide ((k : Int) < (nr : Int)) = true := by simp; omega
      obtain ⟨p, hp⟩ : ∃ p, (rle ts)[k]? = some p := ⟨_, List.getElem?_eq_getElem (by rw [HNR.out]; exact hlt)⟩
      have hpos := okR_mem (rle_ok ts) p (List.mem_of_getElem? hp)
      have hat := offs_at hp (i := 0) (by omega)
      have hle := offs_le hp
      rw [rle_flat] at hat hle
      rw [HL.out] at hle
      have hsucc := Lib.hid (offs_succ hp)
      have htk := Lib.hid (show (rle ts).take (k + 1) = (rle ts).take k ++ [p] by rw [List.take_add_one, hp]; rfl)
      have HSN := Lib.hid (levP_snoc HLP.out p)
      have hrun := runsL_at hp
      obtain ⟨x, m⟩ := p
      dsimp only at hpos hat hle hsucc hrun HSN
      obtain ⟨at_, hat_⟩ : ∃ a, offs (rle ts) k = a := ⟨_, rfl⟩
      rw [hat_] at hat hle hsucc
      rw [Nat.add_zero] at hat
      obtain ⟨b, o, x', rfl, hbl, hx, hc⟩ := h.at_ (i := at_) (by omega)
      obtain rfl : x' = x := by rw [hx] at hat; injection hat
      obtain ⟨b2, o2, z, rfl, hbl2, hz, hc2⟩ := HRn.at_ hlt
      obtain rfl : z = (m : Int) := by rw [hz] at hrun; injection hrun
      have k0 := (B2.cell (p := ⟨b, o + at_, none⟩) hbl).trans hc
      have w1 : IntKind.i64.wrap (2 * (m : Int)) = 2 * (m : Int) := IntWalk.i64_in _ (by omega)
      have w2 : IntKind.i64.wrap (5 * (W : Int)) = 5 * (W : Int) := IntWalk.i64_in _ (by omega)
      have w3 : IntKind.i64.wrap (3 * (W : Int)) = 3 * (W : Int) := IntWalk.i64_in _ (by omega)
      have w4 : IntKind.i64.wrap ((at_ : Int) + (m : Int)) = (at_ : Int) + (m : Int) := IntWalk.i64_in _ (by omega)
      have hne1 : ∀ a, A1 = some a → a.block ≠ b2 := fun a ha => hne a ha _ rfl
      have hlt2 : at_ < n := by omega
      by_cases l0 : 2 * m < W
      · have g0 : decide (2 * (m : Int) < (W : Int)) = true := by simp; omega
        have g1 : decide (2 * m < W) = true := by simp; omega
        have HE := Lib.hid (levelsFrom_stop (ts := ts) (w := W) (List.take_prefix (k + 1) _) (.inl (by rw [htk.out, HSN.out, if_pos (by unfold lasting; rw [if_pos l0])])))
        obtain rfl := HE.out.symm.trans HR.out
        clear hat hx hc hrun hz l0 hp
        simp only [hat_]
        go_wp2
        go_ret2
        exact ⟨_, _, _, rfl, lit_own' hge, B2.alloc hge _⟩
      have g0 : decide (2 * (m : Int) < (W : Int)) = false := by simp; omega
      have g1 : decide (2 * m < W) = false := by simp; omega
      by_cases l5 : 5 * W ≤ 2 * m
      · have g2 : decide (2 * (m : Int) ≥ 5 * (W : Int)) = true := by simp; omega
        have g3 : decide (5 * (W : Int) ≤ 2 * (m : Int)) = true := by simp; omega
        have g4 : decide (5 * W ≤ 2 * m) = true := by simp; omega
        have HE := Lib.hid (levelsFrom_stop (ts := ts) (w := W) (List.take_prefix (k + 1) _) (.inl (by rw [htk.out, HSN.out, if_pos (by unfold lasting; rw [if_neg (by omega), if_neg (by omega), if_neg (by omega)])])))
        obtain rfl := HE.out.symm.trans HR.out
        clear hat hx hc hrun hz l0 l5 hp
        simp only [hat_]
        go_wp2
        go_ret2
        exact ⟨_, _, _, rfl, lit_own' hge, B2.alloc hge _⟩
      have g2 : decide (2 * (m : Int) ≥ 5 * (W : Int)) = false := by simp; omega
      have g3 : decide (5 * (W : Int) ≤ 2 * (m : Int)) = false := by simp; omega
      have g4 : decide (5 * W ≤ 2 * m) = false := by simp; omega
      by_cases l3 : 3 * W ≤ 2 * m
      · have g5 : decide (2 * (m : Int) ≥ 3 * (W : Int)) = true := by simp; omega
        have g6 : decide (3 * (W : Int) ≤ 2 * (m : Int)) = true := by simp; omega
        have g7 : decide (3 * W ≤ 2 * m) = true := by simp; omega
        have hl : lasting m W = 2 := by unfold lasting; rw [if_neg (by omega), if_neg (by omega), if_pos (by omega)]
        have HN : Hid (levP W ((rle ts).take (k + 1)) = some (acc ++ [x', x'])) := by
          have := htk.out
          have h2 := HSN.out
          rw [hl, if_neg (by omega), replicate2] at h2
          exact (congrArg (levP W) this).trans h2
        have hbw : b2 < wr.heap.size := hbl2
        clear hat hx hc hrun hz l0 l5 l3 hp hl
        simp only [hat_]
        go_wp2_with (at_builtin; first | (refine wpList_apps _ rfl (.tmp 50) (.tmp 55) 23 rfl w.heap.size 3 i0 (.int .i64 0) 8 Try.underlying23 hi hz0 hz1 hz2 rfl A1 q c1 _ rfl O2 1 1 #[.int .i64 x'] rfl rfl (by simp [Value.oneCell']) (by decide) (by omega) (by decide) hge ?_; intro g3' c3 w3' O3 G3 B3 E3; have k1 := (B3.cell (p := ⟨b, o + at_, none⟩) (by show b < _; omega)).trans k0; have hR3 := has_past HRn G3 hne1; have ng := new_ne hbw hne1 E3; have C3 := B2.trans B3; have hge3 := C3.size; have hb3 : b2 < w3'.heap.size := by have := G3.size; omega) | (refine wpList_apps _ rfl (.tmp 62) (.tmp 67) 23 rfl w.heap.size 3 i0 (.int .i64 0) 8 Try.underlying23 hi hz0 hz1 hz2 rfl _ (q + 1) c3 _ rfl O3 1 1 #[.int .i64 x'] rfl rfl (by simp [Value.oneCell']) (by decide) (by omega) (by decide) hge3 ?_; intro g4' c4 w4' O4 G4 B4 E4; have hR4 := has_past hR3 G4 (fun a ha => by injection ha with ha; subst ha; exact ng); have ng4 := new_ne hb3 (fun a ha => by injection ha with ha; subst ha; exact ng) E4; have C4 := C3.trans B4))
        go_roundw
        case rel => exact ⟨k + 1, q + 2, _, _, acc ++ [x', x'], by omega, by omega, by go_num, by rw [hsucc.out]; simp, rfl, by rw [ints_app]; simpa [ints, List.append_assoc] using O4, HN, fun a ha a2 ha2 => by (injection ha with ha; injection ha2 with ha2; subst ha ha2; exact ng4), hR4, C4⟩
        case measure => simp [intOf]; omega
      · have g5 : decide (2 * (m : Int) ≥ 3 * (W : Int)) = false := by simp; omega
        have g6 : decide (3 * (W : Int) ≤ 2 * (m : Int)) = false := by simp; omega
        have g7 : decide (3 * W ≤ 2 * m) = false := by simp; omega
        have hl : lasting m W = 1 := by unfold lasting; rw [if_neg (by omega), if_pos (by omega)]
        have HN : Hid (levP W ((rle ts).take (k + 1)) = some (acc ++ [x'])) := by
          have := htk.out
          have h2 := HSN.out
          rw [hl, if_neg (by omega)] at h2
          exact (congrArg (levP W) this).trans h2
        have hbw : b2 < wr.heap.size := hbl2
        clear hat hx hc hrun hz l0 l5 l3 hp hl
        simp only [hat_]
        go_wp2_with (at_builtin; refine wpList_apps _ rfl (.tmp 50) (.tmp 55) 23 rfl w.heap.size 3 i0 (.int .i64 0) 8 Try.underlying23 hi hz0 hz1 hz2 rfl A1 q c1 _ rfl O2 1 1 #[.int .i64 x'] rfl rfl (by simp [Value.oneCell']) (by decide) (by omega) (by decide) hge ?_; intro g3' c3 w3' O3 G3 B3 E3; have k1 := (B3.cell (p := ⟨b, o + at_, none⟩) (by show b < _; omega)).trans k0; have hR3 := has_past HRn G3 hne1; have ng := new_ne hbw hne1 E3; have C3 := B2.trans B3; have hge3 := C3.size; have hb3 : b2 < w3'.heap.size := by have := G3.size; omega)
        go_roundw
        case rel => exact ⟨k + 1, q + 1, _, _, acc ++ [x'], by omega, by omega, by go_num, by rw [hsucc.out]; simp, rfl, by rw [ints_app]; exact O3, HN, fun a ha a2 ha2 => by (injection ha with ha; injection ha2 with ha2; subst ha ha2; exact ng), hR3, C3⟩
        case measure => simp [intOf]; omega
    · have hltB : decide ((k : Int) < (nr : Int)) = false := by simp; omega
      obtain rfl : k = nr := by omega
      have hlp := HLP.out
      rw [List.take_of_length_le (by rw [HNR.out]; omega)] at hlp
      have hacc : acc.length = q := O2.has.len
      by_cases hov : q ≤ 400
      · have gv : decide ((q : Int) > 400) = false := by simp; omega
        have gv2 : decide (400 < (q : Int)) = false := by simp; omega
        have HE := Lib.hid (levelsFromL_yes HB.out ⟨hW1, hW2⟩ (by rw [HL.out]; exact h4) hlp (by omega))
        obtain rfl := HE.out.symm.trans HR.out
        clear hlp hacc
        go_wp2
        go_ret2
        exact ⟨_, _, _, rfl, O2, B2⟩
      · have gv : decide ((q : Int) > 400) = true := by simp; omega
        have gv2 : decide (400 < (q : Int)) = true := by simp; omega
        have HE := Lib.hid (levelsFromL_bad (ts := ts) (w := W) (fun o ho => by rw [hlp] at ho; injection ho with ho; subst ho; omega))
        obtain rfl := HE.out.symm.trans HR.out
        clear hlp hacc
        go_wp2
        go_ret2
        exact ⟨_, _, _, rfl, lit_own' hge, B2.alloc hge _⟩
theorem specLevelsFrom_w {A : Option Addr} {n c : Nat} {ts : List Int} {wd : Int} {w : World} (h : Has w A n (ints .i64 ts)) (hn : n ≤ 16777216) :
    Calls Try.prog 32 #[.slice A n c, .int .i64 wd] w fun e w' => ∃ A' n' c', e = .returned (.tuple #[.slice A' n' c', .bool (levelsFromL ts wd).2]) ∧ Own w' w.heap.size 3 A' n' c' (ints .i64 (levelsFromL ts wd).1) ∧ Below w.heap.size w w' := specLevelsFrom_r rfl h hn
theorem levelsFromL_len (ts : List Int) (wd : Int) : (levelsFromL ts wd).1.length ≤ 400 := by
  cases hb : levelsFromL ts wd with
  | mk o b =>
    cases b with
    | true => exact (levelsFromL_inv hb).2.2.2.2
    | false => rw [levelsFromL_false hb]; simp
theorem specReadLine_w {A : Option Addr} {n c : Nat} {ts : List Int} {wd : Int} {w : World} (h : Has w A n (ints .i64 ts)) (hn : n ≤ 16777216) :
    Calls Try.prog 34 #[.slice A n c, .int .i64 wd] w fun e w' => ∃ A' n' c', e = .returned (.tuple #[.slice A' n' c', .bool (readLineL ts wd).2]) ∧ Own w' w.heap.size 3 A' n' c' (ints .i64 (readLineL ts wd).1) ∧ Below w.heap.size w w' := by
  have hlen := levelsFromL_len ts wd
  obtain ⟨r, hr⟩ : ∃ r, readLineL ts wd = r := ⟨_, rfl⟩
  obtain ⟨q, hq⟩ : ∃ q, levelsFromL ts wd = q := ⟨_, rfl⟩
  have C := Lib.hid (specLevelsFrom_r (c := c) hq h hn)
  rw [hr]
  rw [hq] at hlen
  obtain ⟨lv, ok⟩ := q
  dsimp only at hlen
  cases ok with
  | true =>
    have HR := Lib.hid (hr.symm.trans (readLineL_yes hq))
    clear hr hq
    go_enter Try.func34, Try.ntmps34
    go_wp2_with (fail)
    refine C.out.mono ?_
    rintro e w1 ⟨A1, n1, c1, rfl, O1, B1⟩
    have hn1 : n1 ≤ 16777216 := by have := O1.has.len; omega
    go_wp2_with (fail)
    refine (specBitsFrom_r HR.out.symm O1.has hn1).mono ?_
    rintro e w2 ⟨A2, n2, c2, rfl, O2, B2⟩
    go_wp2
    go_ret2
    exact ⟨_, _, _, rfl, O2.mono B1.size, bel_trans B1 B2⟩
  | false =>
    have HR := Lib.hid (hr.symm.trans (readLineL_no hq))
    clear hr hq
    obtain rfl := HR.out
    go_enter Try.func34, Try.ntmps34
    go_wp2_with (fail)
    refine C.out.mono ?_
    rintro e w1 ⟨A1, n1, c1, rfl, O1, B1⟩
    have hge := B1.size
    go_wp2
    go_ret2
    exact ⟨_, _, _, rfl, lit_own' hge, B1.alloc hge _⟩
end Go.Proofs.Ytbeebaiionlcoaa
