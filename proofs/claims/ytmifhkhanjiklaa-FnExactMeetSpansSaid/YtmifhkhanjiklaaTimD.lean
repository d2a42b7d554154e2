/-
  Chapter 15's model: what is proved here is what MeetSpans returns, and that it writes nothing that was there. Condition: lengths up to 2^24.
-/
import Derived.Test.YtmifhkhanjiklaaTimC
namespace Go.Proofs.Ytmifhkhanjiklaa
open Go.RowKit

/-- How far a span in a block is from the greatest number. -/
def hiLeft (w : World) (r : Nat) : Nat := match w.cell? ⟨r, 1, none⟩ with
  | some (.int _ z) => (4000000 - z).toNat
  | _ => 0
theorem hiLeft_cell {w : World} {r : Nat} {e : TypeId} {x y : Int} (h : DRow w r e x y) : hiLeft w r = (4000000 - y).toNat := by unfold hiLeft; rw [h.cells.2]
theorem ret_meet {x y m x' y' m' : Int} (h : x = x') (h2 : y = y') (h3 : m = m') : Ending.returned (.tuple #[.agg #[.int .i64 x, .int .i64 y], .int .i64 m]) = .returned (.tuple #[.agg #[.int .i64 x', .int .i64 y'], .int .i64 m']) := by rw [h, h2, h3]
theorem meet_none {L : List Duo} (h : ¬ spsOk L) : MeetR L 0 0 0 := Or.inr ⟨h, rfl, rfl, rfl⟩
theorem take_full15 {α : Type} {P : α → Prop} {l : List α} {n : Nat} (h : ∀ z ∈ l.take n, P z) (hl : l.length = n) : ∀ z ∈ l, P z := by
  rw [← hl, List.take_length] at h; exact h
def agN (v : Value) : Nat := match v with
  | .bool true => 1
  | _ => 0
theorem set_belowT {w w' : World} {B : Nat} (h : Below B w w') (i : Nat) (v : Value) : Below B w (w'.setCell ⟨B, i, none⟩ v) := h.setCell (Nat.le_refl _) v
/-- What is told of spans. -/
def MeetW (w w' : World) (L : List Duo) (e : Ending) : Prop := (∃ lo hi m, e = .returned (.tuple #[.agg #[.int .i64 lo, .int .i64 hi], .int .i64 m]) ∧ MeetR L lo hi m) ∧ Below w.heap.size w w'
/-- One step of the model's first loop, over whole numbers. -/
def LowZ (L : List Duo) (k : Nat) (b lo : Int) : Prop := ∃ bn : Nat, b = (bn : Int) ∧ LowTo L k bn lo
theorem lowZ_step {L : List Duo} {k : Nat} {b lo c f : Int} (h : LowZ L k b lo) (hc : (cntS L (dj L k).1 : Int) = c) (hf : (dj L k).1 = f) (hp : 0 < c) :
    ((b < c ∨ (c = b ∧ f < lo)) → LowZ L (k + 1) c f) ∧ (¬ (b < c ∨ (c = b ∧ f < lo)) → LowZ L (k + 1) b lo) := by
  obtain ⟨bn, rfl, hb⟩ := h
  subst hc
  subst hf
  have h1 := low_step hb (c := cntS L (dj L k).1) rfl (by omega)
  refine ⟨fun hh => ⟨_, rfl, h1.1 ?_⟩, fun hh => ⟨bn, rfl, h1.2 ?_⟩⟩
  · rcases hh with hh | ⟨hh, hg⟩
    · exact Or.inl (by omega)
    · exact Or.inr ⟨by omega, hg⟩
  · intro hg
    rcases hg with hg | ⟨hg, hi⟩
    · exact hh (Or.inl (by omega))
    · exact hh (Or.inr ⟨by omega, hi⟩)
theorem lowZ_zero (L : List Duo) : LowZ L 0 0 0 := ⟨0, rfl, Or.inl ⟨rfl, rfl, rfl⟩⟩
theorem cnt_own {L : List Duo} (h : spsOk L) {k : Nat} (hk : k < L.length) : 0 < (cntS L (dj L k).1 : Int) := by
  have := cnt_pos.2 ⟨_, dj_memT hk, h.2 _ (dj_memT hk), Int.le_refl _, (h.2 _ (dj_memT hk)).2.1⟩
  omega
/-- The stretch so far, and what is known of the spans of this round. -/
def EndZ (L : List Duo) (b : Nat) (lo h0 : Int) (k : Nat) (ag : Bool) (hi : Int) : Prop :=
  HiTo L b lo hi ∧ h0 ≤ hi ∧ (ag = true → h0 < hi) ∧ (ag = false → hi = h0 ∧ ∀ i, i < k → (dj L i).1 = h0 + 1 → cntS L (dj L i).1 ≠ b)
theorem endZ_no {L : List Duo} {b : Nat} {lo h0 : Int} {k : Nat} {ag : Bool} {hi : Int} (h : EndZ L b lo h0 k ag hi) (hn : (dj L k).1 = hi + 1 → cntS L (dj L k).1 ≠ b) : EndZ L b lo h0 (k + 1) ag hi := by
  obtain ⟨h1, h2, h3, h4⟩ := h
  refine ⟨h1, h2, h3, fun ha => ⟨(h4 ha).1, fun i hi he => ?_⟩⟩
  by_cases e : i = k
  · subst e; have := (h4 ha).1; subst this; exact hn he
  · exact (h4 ha).2 i (by omega) he
theorem endZ_yes {L : List Duo} {b : Nat} {lo h0 : Int} {k : Nat} {ag : Bool} {hi e : Int} (h : EndZ L b lo h0 k ag hi) (h1 : ∀ n, cntS L n ≤ b) (h0b : 0 < b) (hf : (dj L k).1 = hi + 1) (hc : cntS L (dj L k).1 = b) (he : endTo L (dj L k).1 4000000 L.length = e) : EndZ L b lo h0 (k + 1) true e ∧ hi < e := by
  obtain ⟨g1, g2, g3, g4⟩ := h
  have h5 := hi_any h1 h0b hc (by omega) he
  rw [hf] at h5
  obtain ⟨h6, h7⟩ := hi_join g1 h5
  exact ⟨⟨h6, by omega, fun _ => by omega, fun hh => by cases hh⟩, h7⟩
set_option maxRecDepth 100000 in
set_option maxHeartbeats 16000000 in
theorem specMeetSpans_any {A : Option Addr} {n c : Nat} {L : List Duo} {w : World} (h : HasD w A n L) (hn : n ≤ 16777216) :
    Calls Try.prog 35 #[.slice A n c] w fun e w' => MeetW w w' L e := by
  have HL := Lib.hid h.1
  obtain ⟨W0, hW0⟩ : ∃ W0, w.alloc (.cells #[.int .i64 0, .int .i64 0] 30) = W0 := ⟨_, rfl⟩
  have K0 : DRow W0 w.heap.size 30 0 0 := hW0 ▸ dRow_alloc w _ 0 0
  have B0 : Below w.heap.size w W0 := hW0 ▸ below_allocQ w _
  have h0 := h.bel B0
  have HK0 := Lib.hid K0
  have sz0 := B0.size
  go_enter Try.func35, Try.ntmps35
  go_wp2
  -- all of them are spans
  go_loopw [4] (fun i wr => ∃ (k : Nat), k ≤ n ∧ i = .int .i64 (k : Int) ∧ Hid (∀ z ∈ L.take k, spOk z) ∧ Below W0.heap.size W0 wr) (fun i _ => n - (intOf i).toNat)
  case atStart =>
    have h1 : Hid (∀ z ∈ L.take 0, spOk z) := fun z hz => by simp at hz
    exact ⟨0, Nat.zero_le _, rfl, h1, Below.refl _ _⟩
  case round =>
    obtain ⟨k, hk, rfl, HX, B⟩ := hrel
    have hge := B.size
    by_cases hlt : k < n
    · have hltB : decide ((k : Int) < (n : Int)) = true := by simp; omega
      obtain ⟨bb, o, f, t, rfl, hbl, he, c0, c1⟩ := (h0.bel B).at_ hlt
      by_cases hh : spOk (f, t)
      rotate_left
      · have C := Lib.hid (fun W => l15Span_b (w := W) (decide_eq_false hh))
        have HE := Lib.hid (meet_none (L := L) (fun h2 => hh (h2.2 _ (List.mem_of_getElem? he))))
        clear hh he
        go_wp2_with (fail)
        refine (C.out _).mono ?_
        rintro e w3 ⟨rfl, B3⟩
        have B4 := B.trans (B3.mono hge)
        have K2 := HK0.out.bel B4
        have s2 := bel_trans B0 B4
        have g0 := K2.open_ 0
        have g1 := K2.open_ 1
        obtain ⟨q0, q1⟩ := K2.cells
        have HF := Lib.hid (K2.put 0 0)
        have HB := Lib.hid (put_belowD s2 (R := w.heap.size) (Nat.le_refl _) (.int .i64 0) (.int .i64 0))
        clear B B3 B4 K2 s2
        go_wp2
        refine bodyPost_ret (results_row_tmpQ rfl _ _ _ _ _ _ _ rfl HF.out Try.underlying30 rfl (by kernel_rfl)) rfl ?_
        exact ⟨⟨_, _, _, rfl, HE.out⟩, HB.out⟩
      · have C := Lib.hid (fun W => l15Span_b (w := W) (decide_eq_true hh))
        have HX2 : Hid (∀ z ∈ L.take (k + 1), spOk z) := take_all15 HX.out he hh
        clear hh he
        go_wp2_with (fail)
        refine (C.out _).mono ?_
        rintro e w3 ⟨rfl, B3⟩
        have B4 := B.trans (B3.mono hge)
        go_wp2
        go_roundw
        case rel => exact ⟨k + 1, by omega, by go_num, HX2, B4⟩
        case measure => simp [intOf]; omega
    · have hltB : decide ((k : Int) < (n : Int)) = false := by simp; omega
      obtain rfl : k = n := by omega
      have HS := Lib.hid (take_full15 HX.out HL.out)
      have s1 := bel_trans B0 B
      have K1 := HK0.out.bel B
      have hK1 := K1.lt
      have h1 := h0.bel B
      clear HX
      by_cases hm : 1 ≤ k ∧ k ≤ 40
      rotate_left
      · have C1 := Lib.hid (fun W => l1In_no (k : Int) 1 40 W (by omega))
        have HE := Lib.hid (meet_none (L := L) (fun h2 => hm (by have := h2.1; have := HL.out; omega)))
        have g0 := K1.open_ 0
        have g1 := K1.open_ 1
        obtain ⟨q0, q1⟩ := K1.cells
        have HF := Lib.hid (K1.put 0 0)
        have HB := Lib.hid (put_belowD s1 (R := w.heap.size) (Nat.le_refl _) (.int .i64 0) (.int .i64 0))
        clear hm s1 K1 h1
        go_wp2_with (fail)
        refine (C1.out _).mono ?_
        rintro e w3 ⟨rfl, rfl⟩
        go_wp2
        refine bodyPost_ret (results_row_tmpQ rfl _ _ _ _ _ _ _ rfl HF.out Try.underlying30 rfl (by kernel_rfl)) rfl ?_
        exact ⟨⟨_, _, _, rfl, HE.out⟩, HB.out⟩
      have C1 := Lib.hid (fun W => l1In_yes (k : Int) 1 40 W (by omega) (by omega))
      have HSP := Lib.hid (show spsOk L from ⟨by have := HL.out; omega, HS.out⟩)
      have hk40 : k ≤ 40 := hm.2
      clear hm HS
      have BZ := Lib.hid B
      clear B
      generalize wr = V1 at *
      have KD := dRow_alloc V1 30 0 0
      have BD : Below V1.heap.size V1 (V1.alloc (.cells #[.int .i64 0, .int .i64 0] 30)) := below_allocQ V1 _
      --MARK
      go_wp2_with (fail)
      refine (C1.out _).mono ?_
      rintro e w3 ⟨rfl, rfl⟩
      go_wp2
      -- the least beginning that most have
      go_loopw [5, 7] (fun b i wx => ∃ (j : Nat) (x lo : Int), j ≤ k ∧ i = .int .i64 (j : Int) ∧ b = .int .i64 x ∧ Hid (LowZ L j x lo) ∧ DRow wx V1.heap.size 30 lo 0 ∧ Below V1.heap.size V1 wx) (fun _ i _ => k - (intOf i).toNat)
      case atStart =>
        have h2 : Hid (LowZ L 0 0 0) := lowZ_zero L
        exact ⟨0, 0, 0, Nat.zero_le _, rfl, rfl, h2, KD, BD⟩
      case round =>
        obtain ⟨j, x, lo, hj, rfl, rfl, HX, KR, BR⟩ := hrel
        clear KD BD
        have hge2 := BR.size
        by_cases hjt : j < k
        · have hjB : decide ((j : Int) < (k : Int)) = true := by simp; omega
          obtain ⟨bb, o, f, t, rfl, hbl, he, c0, c1⟩ := (h1.bel BR).at_ hjt
          obtain ⟨cz, hcz⟩ : ∃ z, (cntS L f : Int) = z := ⟨_, rfl⟩
          have C := Lib.hid (l15Many_r (c := c) (h1.bel BR) hn hcz)
          have HP := cnt_own HSP.out (k := j) (by have := HL.out; omega)
          rw [dj_atT he, hcz] at HP
          have HST := Lib.hid (lowZ_step HX.out (by rw [dj_atT he]; exact hcz) (show (dj L j).1 = f by rw [dj_atT he]) HP)
          clear hcz HP he
          go_wp2_with (fail)
          refine C.out.mono ?_
          rintro e w4 ⟨rfl, B4⟩
          have K4 := KR.bel B4
          have BR4 := BR.trans (B4.mono hge2)
          have d0 := (B4.cell (p := ⟨bb, o + j * 2, none⟩) hbl).trans c0
          obtain ⟨q0, q1⟩ := K4.cells
          clear C
          by_cases ha : x < cz
          · have HA := Lib.hid ha
            have s1 : decide (cz > x) = true := by simp; omega
            have s2 : decide (x < cz) = true := by simp; omega
            clear ha
            have HX2 : Hid (LowZ L (j + 1) cz f) := HST.out.1 (Or.inl HA.out)
            clear HST
            go_wp2
            go_quiet (fail)
            generalize hw5 : World.drewN _ _ = w5
            have K5 : DRow w5 V1.heap.size 30 lo 0 := hw5 ▸ K4.bel (below_drewN _ _)
            have BR5 : Below V1.heap.size V1 w5 := hw5 ▸ BR4.trans (below_drewN _ _)
            have e0 : w5.cell? ⟨bb, o + j * 2, none⟩ = some (.int .i64 f) := hw5 ▸ d0
            clear hw5
            have g0 := K5.open_ 0
            obtain ⟨u0, u1⟩ := K5.cells
            have K6 := K5.put0 f
            have BR6 := set_belowT BR5 0 (.int .i64 f)
            go_wp2
            go_roundw
            case rel => exact ⟨j + 1, cz, f, by omega, by go_num, rfl, HX2, K6, BR6⟩
            case measure => simp [intOf]; omega
          have s1 : decide (cz > x) = false := by simp; omega
          have s2 : decide (x < cz) = false := by simp; omega
          by_cases hb : cz = x
          rotate_left
          · have HA := Lib.hid (show ¬ (x < cz ∨ (cz = x ∧ f < lo)) from fun hh => by rcases hh with hh | hh; exact ha hh; exact hb hh.1)
            have s3 : (cz == x) = false := by simp; exact hb
            clear ha hb
            have HX2 : Hid (LowZ L (j + 1) x lo) := HST.out.2 (HA.out)
            clear HST
            go_wp2
            go_quiet (fail)
            generalize hw5 : World.drewN _ _ = w5
            have K5 : DRow w5 V1.heap.size 30 lo 0 := hw5 ▸ K4.bel (below_drewN _ _)
            have BR5 : Below V1.heap.size V1 w5 := hw5 ▸ BR4.trans (below_drewN _ _)
            have e0 : w5.cell? ⟨bb, o + j * 2, none⟩ = some (.int .i64 f) := hw5 ▸ d0
            clear hw5
            go_wp2
            go_roundw
            case rel => exact ⟨j + 1, x, lo, by omega, by go_num, rfl, HX2, K5, BR5⟩
            case measure => simp [intOf]; omega
          have s3 : (cz == x) = true := by simp; exact hb
          by_cases hf : f < lo
          · have HA := Lib.hid (show x < cz ∨ (cz = x ∧ f < lo) from Or.inr ⟨hb, hf⟩)
            have s4 : decide (f < lo) = true := by simp; omega
            clear ha hb hf
            have HX2 : Hid (LowZ L (j + 1) cz f) := HST.out.1 (HA.out)
            clear HST
            go_wp2
            go_quiet (fail)
            generalize hw5 : World.drewN _ _ = w5
            have K5 : DRow w5 V1.heap.size 30 lo 0 := hw5 ▸ K4.bel (below_drewN _ _)
            have BR5 : Below V1.heap.size V1 w5 := hw5 ▸ BR4.trans (below_drewN _ _)
            have e0 : w5.cell? ⟨bb, o + j * 2, none⟩ = some (.int .i64 f) := hw5 ▸ d0
            clear hw5
            have g0 := K5.open_ 0
            obtain ⟨u0, u1⟩ := K5.cells
            have K6 := K5.put0 f
            have BR6 := set_belowT BR5 0 (.int .i64 f)
            go_wp2
            go_roundw
            case rel => exact ⟨j + 1, cz, f, by omega, by go_num, rfl, HX2, K6, BR6⟩
            case measure => simp [intOf]; omega
          · have HA := Lib.hid (show ¬ (x < cz ∨ (cz = x ∧ f < lo)) from fun hh => by rcases hh with hh | hh; exact ha hh; exact hf hh.2)
            have s4 : decide (f < lo) = false := by simp; omega
            clear ha hb hf
            have HX2 : Hid (LowZ L (j + 1) x lo) := HST.out.2 (HA.out)
            clear HST
            go_wp2
            go_quiet (fail)
            generalize hw5 : World.drewN _ _ = w5
            have K5 : DRow w5 V1.heap.size 30 lo 0 := hw5 ▸ K4.bel (below_drewN _ _)
            have BR5 : Below V1.heap.size V1 w5 := hw5 ▸ BR4.trans (below_drewN _ _)
            have e0 : w5.cell? ⟨bb, o + j * 2, none⟩ = some (.int .i64 f) := hw5 ▸ d0
            clear hw5
            go_wp2
            go_roundw
            case rel => exact ⟨j + 1, x, lo, by omega, by go_num, rfl, HX2, K5, BR5⟩
            case measure => simp [intOf]; omega
        · have hjB : decide ((j : Int) < (k : Int)) = false := by simp; omega
          obtain rfl : j = k := by omega
          obtain ⟨bn, hxb, hlw⟩ := HX.out
          have HLO := low_all (by have := HSP.out.1; omega) (show LowTo L L.length bn lo by rw [HL.out]; exact hlw)
          obtain ⟨hb0, hcl, hall, hbef⟩ := HLO
          have hlo1 : -4000000 ≤ lo := by
            obtain ⟨s, _, hs⟩ := cnt_pos.1 (show 0 < cntS L lo by omega)
            have h6 := hs.1.1
            have h7 := hs.2.1
            omega
          have HLO := Lib.hid (show cntS L lo = bn ∧ (∀ n, cntS L n ≤ bn) ∧ (∀ n, n < lo → cntS L n < bn) ∧ 0 < bn from ⟨hcl, hall, hbef, hb0⟩)
          have HXB := Lib.hid hxb
          have g1 := KR.open_ 1
          obtain ⟨q0, q1⟩ := KR.cells
          have KT := KR.put1 4000001
          have BT := set_belowT BR 1 (.int .i64 4000001)
          clear hb0 hcl hall hbef hlw hxb HX
          generalize wr = V2 at *
          go_wp2
          -- the least end of those that have it
          go_loopw [9] (fun i wx => ∃ (i2 : Nat) (y : Int), i2 ≤ j ∧ i = .int .i64 (i2 : Int) ∧ Hid (endTo L lo 4000001 i2 = y) ∧ DRow wx V1.heap.size 30 lo y ∧ Below V1.heap.size V1 wx) (fun i _ => j - (intOf i).toNat)
          case atStart =>
            have h2 : Hid (endTo L lo 4000001 0 = 4000001) := by have : endTo L lo 4000001 0 = 4000001 := rfl; exact this
            exact ⟨0, 4000001, Nat.zero_le _, rfl, h2, KT, BT⟩
          case round =>
            obtain ⟨i2, y, hi2, rfl, HY, KY, BY⟩ := hrel
            clear KT BT KR BR g1 q0 q1
            have hge3 := BY.size
            by_cases hit : i2 < j
            · have hiB : decide ((i2 : Int) < (j : Int)) = true := by simp; omega
              obtain ⟨bb, o, f, t, rfl, hbl, he, c0, c1⟩ := (h1.bel BY).at_ hit
              have HST := Lib.hid (show endTo L lo 4000001 (i2 + 1) = if hasS (dj L i2) lo then min (endTo L lo 4000001 i2) (dj L i2).2 else endTo L lo 4000001 i2 from rfl)
              rw [dj_atT he, HY.out] at HST
              have DB : Below wr.heap.size wr wr.drew := (Below.refl _ _).drew
              obtain ⟨q0, q1⟩ := KY.cells
              by_cases hh : hasS (f, t) lo
              · have C := Lib.hid (fun W => specSpanHas_b (w := W) (decide_eq_true hh))
                obtain ⟨z, hz⟩ : ∃ z, min y t = z := ⟨_, rfl⟩
                have HY2 : Hid (endTo L lo 4000001 (i2 + 1) = z) := by
                  have : endTo L lo 4000001 (i2 + 1) = z := by rw [HST.out, if_pos hh]; exact hz
                  exact this
                have HKY := Lib.hid KY
                clear hh he HST KY
                go_wp2
                go_region_with (go_at_call 37; refine (C.out _).mono ?_; rintro e w5 ⟨rfl, B5⟩)
                all_goals
                  have B6 := DB.trans B5
                  have K6 := HKY.out.bel B6
                  have BR6 := BY.trans (B6.mono hge3)
                  have e1 := (B6.cell (p := ⟨bb, o + i2 * 2 + 1, none⟩) hbl).trans c1
                  obtain ⟨u0, u1⟩ := K6.cells
                  have g1 := K6.open_ 1
                  have FF := Lib.hid (show DRow (w5.drew.setCell ⟨V1.heap.size, 1, none⟩ (.int .i64 z)) V1.heap.size 30 lo z ∧ Below V1.heap.size V1 (w5.drew.setCell ⟨V1.heap.size, 1, none⟩ (.int .i64 z)) from ⟨DRow.put1 (w := w5.drew) (show DRow w5.drew V1.heap.size 30 lo y from K6) z, set_belowT BR6.drew 1 (.int .i64 z)⟩)
                  clear B5 B6 K6 BR6
                  go_wp2
                  go_region
                  all_goals
                    go_wp2
                    go_roundw
                    case rel => exact ⟨i2 + 1, z, by omega, by go_num, HY2, FF.out.1, FF.out.2⟩
                    case measure => simp [intOf]; omega
              · have C := Lib.hid (fun W => specSpanHas_b (w := W) (decide_eq_false hh))
                have HY2 : Hid (endTo L lo 4000001 (i2 + 1) = y) := by
                  have : endTo L lo 4000001 (i2 + 1) = y := by rw [HST.out, if_neg hh]
                  exact this
                have HKY := Lib.hid KY
                clear hh he HST KY
                go_wp2
                go_region_with (go_at_call 37; refine (C.out _).mono ?_; rintro e w5 ⟨rfl, B5⟩)
                all_goals
                  have B6 := DB.trans B5
                  have K6 := HKY.out.bel B6
                  have BR6 := BY.trans (B6.mono hge3)
                  go_wp2
                  go_roundw
                  case rel => exact ⟨i2 + 1, y, by omega, by go_num, HY2, K6, BR6⟩
                  case measure => simp [intOf]; omega
            · have hiB : decide ((i2 : Int) < (j : Int)) = false := by simp; omega
              obtain rfl : i2 = j := by omega
              have HH := Lib.hid (show HiTo L bn lo y from hi_any HLO.out.2.1 HLO.out.2.2.2 HLO.out.1 (by omega : (4000000 : Int) ≤ 4000001) (by rw [HL.out]; exact HY.out))
              clear HY
              generalize wr = V3 at *
              go_wp2
              -- as long as another one begins right behind
              go_loopw [10] (fun a wx => ∃ (ag : Bool) (y : Int), a = .bool ag ∧ Hid (HiTo L bn lo y ∧ (ag = false → ∀ i, i < i2 → (dj L i).1 = y + 1 → cntS L (dj L i).1 ≠ bn)) ∧ DRow wx V1.heap.size 30 lo y ∧ Below V1.heap.size V1 wx) (fun a wx => 2 * hiLeft wx V1.heap.size + agN a)
              case atStart =>
                have h2 : Hid (HiTo L bn lo y ∧ (true = false → ∀ i, i < i2 → (dj L i).1 = y + 1 → cntS L (dj L i).1 ≠ bn)) := ⟨HH.out, fun hh => by cases hh⟩
                exact ⟨true, y, rfl, h2, KY, BY⟩
              case round =>
                clear KY BY HH hge3
                obtain ⟨ag, y, rfl, HY, KY, BY⟩ := hrel
                have hge3 := BY.size
                cases ag with
                | false =>
                  have HM := Lib.hid (hi_done HLO.out.2.1 HLO.out.2.2.1 HY.out.1 (fun i hi => HY.out.2 rfl i (by have := HL.out; omega)))
                  have HOK := Lib.hid (meet_ok HSP.out HM.out)
                  have HE := Lib.hid (show MeetR L lo y x from Or.inl ⟨HSP.out, bn, HXB.out, HOK.out.1, HOK.out.2.1, HM.out, HOK.out.2.2⟩)
                  obtain ⟨q0, q1⟩ := KY.cells
                  have K2 := HK0.out.bel (BZ.out.trans (BY.mono BZ.out.size))
                  have s2 := bel_trans B0 (BZ.out.trans (BY.mono BZ.out.size))
                  have g0 := K2.open_ 0
                  have g1 := K2.open_ 1
                  obtain ⟨r0, r1⟩ := K2.cells
                  have HF := Lib.hid (K2.put lo y)
                  have HB := Lib.hid (put_belowD s2 (R := w.heap.size) (Nat.le_refl _) (.int .i64 lo) (.int .i64 y))
                  clear K2 s2 HY KY BY
                  go_wp2
                  refine bodyPost_ret (results_row_tmpQ rfl _ _ _ _ _ _ _ rfl HF.out Try.underlying30 rfl (by kernel_rfl)) rfl ?_
                  exact ⟨⟨_, _, _, rfl, HE.out⟩, HB.out⟩
                | true =>
                  have HLY := hiLeft_cell KY
                  have hyb := HY.out.1.2.1
                  have HLX := Lib.hid HLY
                  generalize wr = V4 at *
                  clear HLY
                  go_wp2
                  go_loopw [10, 11] (fun a i wx => ∃ (j : Nat) (ag : Bool) (z : Int), j ≤ i2 ∧ i = .int .i64 (j : Int) ∧ a = .bool ag ∧ Hid (EndZ L bn lo y j ag z) ∧ DRow wx V1.heap.size 30 lo z ∧ Below V1.heap.size V1 wx) (fun _ i _ => i2 - (intOf i).toNat)
                  case atStart =>
                    have h2 : Hid (EndZ L bn lo y 0 false y) := ⟨HY.out.1, Int.le_refl _, (fun hh => by cases hh), fun _ => ⟨rfl, fun i hi => by omega⟩⟩
                    exact ⟨0, false, y, Nat.zero_le _, rfl, rfl, h2, KY, BY⟩
                  case round =>
                    clear KY BY hge3
                    obtain ⟨j, ag, z, hj, rfl, rfl, HZ, KZ, BW⟩ := hrel
                    have hge4 := BW.size
                    have hzb := HZ.out.1.2.1
                    have hzl := HZ.out.1.1
                    by_cases hjt : j < i2
                    · have hjB : decide ((j : Int) < (i2 : Int)) = true := by simp; omega
                      obtain ⟨bb, o, f, t, rfl, hbl, he, c0, c1⟩ := (h1.bel BW).at_ hjt
                      obtain ⟨wa, hwa⟩ : ∃ wa, wr.alloc (.cells #[.int .i64 f, .int .i64 t] 30) = wa := ⟨_, rfl⟩
                      have KS : DRow wa wr.heap.size 30 f t := hwa ▸ dRow_alloc wr _ f t
                      have BA : Below wr.heap.size wr wa := hwa ▸ below_allocQ wr _
                      have KA := KZ.bel BA
                      have BWA := BW.trans (BA.mono hge4)
                      obtain ⟨x0, x1⟩ := KS.cells
                      obtain ⟨q0, q1⟩ := KA.cells
                      have wz : IntKind.i64.wrap (z + 1) = z + 1 := IntWalk.i64_in _ (by omega)
                      have HF := Lib.hid (show (dj L j).1 = f by rw [dj_atT he])
                      by_cases hf : f = z + 1
                      rotate_left
                      · have s1 : (f == z + 1) = false := by simp; exact hf
                        have HZ2 : Hid (EndZ L bn lo y (j + 1) ag z) := endZ_no HZ.out (fun hh => absurd (HF.out.symm.trans hh) hf)
                        clear hf he KS BA
                        go_wp2
                        go_roundw
                        case rel => exact ⟨j + 1, ag, z, by omega, by go_num, rfl, HZ2, KA, BWA⟩
                        case measure => simp [intOf]; omega
                      have s1 : (f == z + 1) = true := by simp; exact hf
                      obtain ⟨cz, hcz⟩ : ∃ v, (cntS L f : Int) = v := ⟨_, rfl⟩
                      have C := Lib.hid (l15Many_r (c := c) (h1.bel BWA) hn hcz)
                      have hgea := BWA.size
                      by_cases hb : cz = x
                      rotate_left
                      · have s2 : (cz == x) = false := by simp; exact hb
                        have HZ2 : Hid (EndZ L bn lo y (j + 1) ag z) := endZ_no HZ.out (fun _ hh => hb (by rw [HF.out] at hh; have := HXB.out; omega))
                        clear hf he KS BA hb hcz
                        go_wp2_with (fail)
                        refine C.out.mono ?_
                        rintro e w5 ⟨rfl, B5⟩
                        have K5 := KA.bel B5
                        have BW5 := BWA.trans (B5.mono hgea)
                        go_wp2
                        go_roundw
                        case rel => exact ⟨j + 1, ag, z, by omega, by go_num, rfl, HZ2, K5, BW5⟩
                        case measure => simp [intOf]; omega
                      have s2 : (cz == x) = true := by simp; exact hb
                      obtain ⟨v, hv⟩ : ∃ v, endTo L f 4000000 L.length = v := ⟨_, rfl⟩
                      have HV := Lib.hid hv
                      have HZ2 := Lib.hid (show EndZ L bn lo y (j + 1) true v ∧ z < v from endZ_yes HZ.out HLO.out.2.1 HLO.out.2.2.2 (HF.out.trans hf) (by rw [HF.out]; have := HXB.out; omega) (by rw [HF.out]; exact hv))
                      have HZ3 : Hid (EndZ L bn lo y (j + 1) true v) := HZ2.out.1
                      have HH1 := Lib.hid h1
                      have hgs := KA.lt
                      clear hf he BA hb hcz hv
                      go_wp2_with (fail)
                      refine C.out.mono ?_
                      rintro e w5 ⟨rfl, B5⟩
                      have K5 := KA.bel B5
                      have BW5 := BWA.trans (B5.mono hgea)
                      have CE := Lib.hid (l15End_r (c := c) (HH1.out.bel BW5) hn HV.out)
                      obtain ⟨y0, y1⟩ := (KS.bel B5).cells
                      have hge5 := BW5.size
                      clear C B5
                      go_wp2_with (fail)
                      refine CE.out.mono ?_
                      rintro e w6 ⟨rfl, B6⟩
                      have K6 := K5.bel B6
                      have BW6 := BW5.trans (B6.mono hge5)
                      have g1 := K6.open_ 1
                      obtain ⟨u0, u1⟩ := K6.cells
                      have K7 := K6.put1 v
                      have BW7 := set_belowT BW6 1 (.int .i64 v)
                      go_wp2
                      go_roundw
                      case rel => exact ⟨j + 1, true, v, by omega, by go_num, rfl, HZ3, K7, BW7⟩
                      case measure => simp [intOf]; omega
                    · have hjB : decide ((j : Int) < (i2 : Int)) = false := by simp; omega
                      obtain rfl : j = i2 := by omega
                      have HLZ := hiLeft_cell KZ
                      have HY2 : Hid (HiTo L bn lo z ∧ (ag = false → ∀ i, i < j → (dj L i).1 = z + 1 → cntS L (dj L i).1 ≠ bn)) := ⟨HZ.out.1, fun hh i hi he => by
                        obtain ⟨e1, e2⟩ := HZ.out.2.2.2 hh
                        subst e1
                        exact e2 i hi he⟩
                      go_wp2
                      go_roundw
                      case rel => exact ⟨ag, z, rfl, HY2, KZ, BW⟩
                      case measure =>
                        have h8 := HLX.out
                        cases ag with
                        | true => have := HZ.out.2.2.1 rfl; simp only [agN]; omega
                        | false => have := (HZ.out.2.2.2 rfl).1; simp only [agN]; subst this; omega
end Go.Proofs.Ytmifhkhanjiklaa
