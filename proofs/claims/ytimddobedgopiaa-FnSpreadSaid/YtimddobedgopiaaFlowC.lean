/-
  Chapter 11's model, frames over several wires: what is proved here is what SpreadFrames returns, in memory of its own, and that it writes nothing that was there. Condition: lengths up to 2^24.
-/
import Derived.Test.YtimddobedgopiaaFlowB
import Derived.Test.YtimddobedgopiaaDrawHops
import Derived.BigQuiet
namespace Go.Proofs.Ytimddobedgopiaa
open Go.RowKit

/-- The flow of a frame. -/
def hopFlow (hs : List Hop3) (i : Nat) : Int := flowI (hs.getD i (0, 0, 0)).1 (hs.getD i (0, 0, 0)).2.1
theorem hopFlow_at {hs : List Hop3} {i : Nat} {f t p : Int} (h : hs[i]? = some (f, t, p)) : hopFlow hs i = flowI f t := by
  unfold hopFlow
  rw [List.getD_eq_getElem?_getD, h]; rfl
/-- Whether the first frames have flows. -/
def flowsTo (hs : List Hop3) : Nat → Bool
  | 0 => true
  | n + 1 => flowsTo hs n && decide (0 ≤ hopFlow hs n)
theorem flowsTo_at {hs : List Hop3} {i : Nat} : ∀ {n : Nat}, flowsTo hs n = true → i < n → 0 ≤ hopFlow hs i
  | 0, _, h => by omega
  | n + 1, h, hi => by
    unfold flowsTo at h
    rw [Bool.and_eq_true] at h
    by_cases e : i = n
    · subst e; exact of_decide_eq_true h.2
    · exact flowsTo_at h.1 (by omega)
theorem flowsTo_not {hs : List Hop3} {i n : Nat} (h : hopFlow hs i < 0) (hi : i < n) : flowsTo hs n = false := by
  cases hf : flowsTo hs n
  · rfl
  · have := flowsTo_at hf hi; omega
theorem flowsTo_succ {hs : List Hop3} {n : Nat} (h : flowsTo hs n = true) (h2 : 0 ≤ hopFlow hs n) : flowsTo hs (n + 1) = true := by
  unfold flowsTo
  rw [h, decide_eq_true h2]; rfl
def hopMem (us : List Bool) (hs : List Hop3) (i : Nat) : Int := memI us (hopFlow hs i)
def spreadI (us : List Bool) (hs : List Hop3) : List (List Int) := if upOk us ∧ hs.length ≤ 60 ∧ flowsTo hs hs.length = true then spreadTo (hopMem us hs) us.length hs.length else []
theorem spreadTo_succ (g : Nat → Int) (k n : Nat) : spreadTo g (k + 1) n = spreadTo g k n ++ [hasTo g (k : Int) n] := by
  unfold spreadTo
  rw [List.range_succ, List.map_append]; rfl
theorem hasTo_yes {g : Nat → Int} {m : Int} {n : Nat} (h : g n = m) : hasTo g m (n + 1) = hasTo g m n ++ [(n : Int)] := by rw [hasTo, if_pos h]
theorem hasTo_not {g : Nat → Int} {m : Int} {n : Nat} (h : g n ≠ m) : hasTo g m (n + 1) = hasTo g m n := by rw [hasTo, if_neg h, List.append_nil]
theorem hasTo_le (g : Nat → Int) (m : Int) (n : Nat) : (hasTo g m n).length ≤ n := by rw [hasTo_len]; exact cnt_le _ _

set_option maxRecDepth 100000 in
set_option maxHeartbeats 4000000 in
theorem specSpreadFrames_w {A A' : Option Addr} {n c n' c' : Nat} {us : List Bool} {hs : List Hop3} {R : List (List Int)} {w : World} (h : Has w A n (bools us)) (h' : HasH w A' n' hs) (hn : n ≤ 16777216) (hn' : n' ≤ 16777216) (hR : spreadI us hs = R) :
    Calls Try.prog 34 #[.slice A n c, .slice A' n' c'] w fun e w' => ∃ A2 n2 c2 vs, e = .returned (.slice A2 n2 c2) ∧ OwnVI w' w.heap.size A2 n2 c2 vs R ∧ Below w.heap.size w w' := by
  obtain ⟨i0, hi, hz0, hz1, hz2⟩ := info_parts Try.infoInt
  obtain ⟨j0, hj, hy0, hy1, hy2⟩ := info_parts Try.infoSlI
  have HL := Lib.hid (has_bools_len h)
  have HH := Lib.hid h'.1
  have E0 : OwnVI (w.alloc (.cells #[] 33)) w.heap.size (some ⟨w.heap.size, 0, none⟩) 0 0 [] [] := ownVI_lit w _ (Nat.le_refl _)
  have B0 : Below w.heap.size w (w.alloc (.cells #[] 33)) := (Below.refl _ _).alloc (Nat.le_refl _) _
  have HRR := Lib.hid hR
  clear hR
  go_enter Try.func34, Try.ntmps34
  go_wp2
  generalize hw0 : w.alloc (.cells #[] 33) = w0 at E0 B0 ⊢
  have s0 := B0.size
  clear hw0
  go_loopw [6] (fun i wr => ∃ k : Nat, k ≤ n' ∧ i = .int .i64 (k : Int) ∧ Hid (flowsTo hs k = true) ∧ Below w0.heap.size w0 wr) (fun i _ => n' - (intOf i).toNat)
  case atStart =>
    have : Hid (flowsTo hs 0 = true) := rfl
    exact ⟨0, Nat.zero_le _, rfl, this, Below.refl _ _⟩
  case round =>
    obtain ⟨k, hk, rfl, HF, BK⟩ := hrel
    have C0 := B0.trans (BK.mono s0)
    by_cases hlt : k < n'
    · have hltB : decide ((k : Int) < (n' : Int)) = true := by simp; omega
      obtain ⟨b, o, f, t, p, rfl, hbl, hx, d0, d1, d2⟩ := (h'.bel C0).at_ hlt
      have hk0 : (0 : Int) ≤ (k : Int) := by omega
      have hk1 : (k : Int) < (n' : Int) := by omega
      have hxf := hopFlow_at hx
      obtain ⟨x, hxx⟩ : ∃ x, flowI f t = x := ⟨_, rfl⟩
      rw [hxx] at hxf
      have C1 := Lib.hid (fun W : World => specFlowOf_r (w := W) hxx)
      clear hx hxx d2
      by_cases hneg : x < 0
      · have xB : decide (x < 0) = true := by simp; omega
        have HN := Lib.hid (HRR.out.symm.trans (show spreadI us hs = [] by unfold spreadI; rw [if_neg (fun hh => by have h1 := flowsTo_at hh.2.2 (show k < hs.length by rw [HH.out]; exact hlt); omega)]))
        clear hxf hneg
        go_wp2
        go_quiet (first | (go_at_call 17; exact Calls.quiet_of_same ((C1.out _).mono (fun e w' hh => ⟨hh.1, hh.2.symm⟩))))
        have BD := below_drewN (B := wr.heap.size) wr nq
        go_wp2
        go_ret
        exact ⟨_, _, _, _, rfl, by rw [HN.out]; exact (E0.bel BK).bel BD, C0.trans (BD.mono (by have := C0.size; omega))⟩
      · have xB : decide (x < 0) = false := by simp; omega
        have HF2 : Hid (flowsTo hs (k + 1) = true) := flowsTo_succ HF.out (by omega)
        clear hxf hneg
        go_wp2
        go_quiet (first | (go_at_call 17; exact Calls.quiet_of_same ((C1.out _).mono (fun e w' hh => ⟨hh.1, hh.2.symm⟩))))
        have BD := below_drewN (B := wr.heap.size) wr nq
        go_wp2
        go_roundw
        case rel => exact ⟨k + 1, by omega, by go_num, HF2, BK.trans (BD.mono (by have := BK.size; omega))⟩
        case measure => simp [intOf]; omega
    · have hltB : decide ((k : Int) < (n' : Int)) = false := by simp; omega
      obtain rfl : k = n' := by omega
      have E1 := E0.bel BK
      have C0s := C0.size
      by_cases h1 : 1 ≤ n ∧ n ≤ 8
      · have C1 := Lib.hid (fun W : World => l11Bundle_b (A := A) (c := c) (w := W) hn (decide_eq_true h1))
        have hn8 : n ≤ 8 := h1.2
        by_cases h60 : k ≤ 60
        · have h6B : decide ((k : Int) > 60) = false := by simp; omega
          have h6C : decide (60 < (k : Int)) = false := by simp; omega
          have h6D : decide (60 < k) = false := by simp; omega
          have HR := Lib.hid (HRR.out.symm.trans (show spreadI us hs = spreadTo (hopMem us hs) n k by unfold spreadI; rw [if_pos ⟨by unfold upOk; rw [HL.out]; exact h1, by rw [HH.out]; exact h60, by rw [HH.out]; exact HF.out⟩, HL.out, HH.out]))
          clear h1 hltB hlt
          go_wp2_with (go_at_call 58; refine (C1.out _).mono ?_; rintro e w' ⟨rfl, rfl⟩)
          generalize hwa : wr = wa at *
          clear hwa
          go_loopw [5, 7] (fun v i wr => ∃ (m : Nat) (Q : Option Addr) (d : Nat) (vs : List Value), m ≤ n ∧ i = .int .i64 (m : Int) ∧ v = .slice Q m d ∧ OwnVI wr w.heap.size Q m d vs (spreadTo (hopMem us hs) m k) ∧ Below w.heap.size w wr) (fun _ i _ => n - (intOf i).toNat)
          case atStart => exact ⟨0, _, _, _, Nat.zero_le _, rfl, rfl, E1, C0⟩
          case round =>
            obtain ⟨m, Q, d, vs, hm, rfl, rfl, OV, BW⟩ := hrel
            by_cases hlt2 : m < n
            · have hltB2 : decide ((m : Int) < (n : Int)) = true := by simp; omega
              have sW := BW.size
              generalize hwb : wr = wb at *
              clear hwb
              have P1 : Own (wb.alloc (.cells #[] 3)) wb.heap.size 3 (some ⟨wb.heap.size, 0, none⟩) 0 0 (ints .i64 (hasTo (hopMem us hs) (m : Int) 0)) := World.ownsRow_lit wb #[] 0 (Nat.le_refl _) (by unfold maxLen; omega) rfl
              have D1 : Below wb.heap.size wb (wb.alloc (.cells #[] 3)) := (Below.refl _ _).alloc (Nat.le_refl _) _
              go_wp2
              go_loopw [8, 9] (fun v i wr => ∃ (j q d2 : Nat) (S : Option Addr), j ≤ k ∧ q ≤ j ∧ i = .int .i64 (j : Int) ∧ v = .slice S q d2 ∧ Own wr wb.heap.size 3 S q d2 (ints .i64 (hasTo (hopMem us hs) (m : Int) j)) ∧ Below wb.heap.size wb wr) (fun _ i _ => k - (intOf i).toNat)
              case atStart => exact ⟨0, 0, 0, _, Nat.zero_le _, Nat.zero_le _, rfl, rfl, P1, D1⟩
              case round =>
                obtain ⟨j, q, d2, S, hjk, hqj, rfl, rfl, OS, DX⟩ := hrel
                have BX := BW.trans (DX.mono sW)
                by_cases hlt3 : j < k
                · have hltB3 : decide ((j : Int) < (k : Int)) = true := by simp; omega
                  obtain ⟨b, o, f, t, p, rfl, hbl, hx, e0, e1, e2⟩ := (h'.bel BX).at_ hlt3
                  have hj0 : (0 : Int) ≤ (j : Int) := by omega
                  have hj1 : (j : Int) < (k : Int) := by omega
                  have hxf := hopFlow_at hx
                  obtain ⟨x, hxx⟩ : ∃ x, flowI f t = x := ⟨_, rfl⟩
                  obtain ⟨y, hyy⟩ : ∃ y, memI us x = y := ⟨_, rfl⟩
                  have hg : hopMem us hs j = y := by unfold hopMem; rw [hxf, hxx, hyy]
                  have CF := Lib.hid (fun W : World => specFlowOf_r (w := W) hxx)
                  have CM := Lib.hid (fun N : Nat => specMemberFor_r (c := c) (w := wr.drewN N) ((h.bel BX).bel (below_drewN _ _)) hn hyy)
                  clear hx hxx hyy e2 hxf
                  by_cases hye : y = (m : Int)
                  · have yB : (y == (m : Int)) = true := by simp [hye]
                    have HG := Lib.hid (hasTo_yes (hg.trans hye))
                    clear hg hye
                    go_wp2
                    go_quiet (first | (go_at_call 17; exact Calls.quiet_of_same ((CF.out _).mono (fun e w' hh => ⟨hh.1, hh.2.symm⟩))) | (go_at_call 20; exact Calls.quiet_of_same ((CM.out _).mono (fun e w' hh => ⟨hh.1, hh.2.symm⟩))))
                    have BD := below_drewN (B := wr.heap.size) wr nq
                    have OS2 := OS.bel BD
                    generalize hwd : wr.drewN nq = wd at *
                    have sd := BD.size
                    have sx := DX.size
                    clear hwd
                    go_wp2_with (at_builtin; refine wpList_apps _ rfl (.tmp 67) (.tmp 69) 33 rfl wb.heap.size 3 i0 (.int .i64 0) 8 Try.underlying33 hi hz0 hz1 hz2 rfl S q d2 _ rfl OS2 1 1 #[.int .i64 (j : Int)] rfl rfl (by simp [Value.oneCell']) (by decide) (by omega) (by decide) (by omega) ?_; intro g4 cap4 w4 O4 G4 B4 _)
                    go_roundw
                    case rel => exact ⟨j + 1, q + 1, _, _, by omega, by omega, by go_num, rfl, by rw [HG.out, ints_app]; exact O4, (DX.trans (BD.mono sx)).trans B4⟩
                    case measure => simp [intOf]; omega
                  · have yB : (y == (m : Int)) = false := by simp [hye]
                    have HG := Lib.hid (hasTo_not (show hopMem us hs j ≠ (m : Int) by rw [hg]; exact hye))
                    clear hg hye
                    go_wp2
                    go_quiet (first | (go_at_call 17; exact Calls.quiet_of_same ((CF.out _).mono (fun e w' hh => ⟨hh.1, hh.2.symm⟩))) | (go_at_call 20; exact Calls.quiet_of_same ((CM.out _).mono (fun e w' hh => ⟨hh.1, hh.2.symm⟩))))
                    have BD := below_drewN (B := wr.heap.size) wr nq
                    have sx := DX.size
                    go_wp2
                    go_roundw
                    case rel => exact ⟨j + 1, q, _, _, by omega, by omega, by go_num, rfl, by rw [HG.out]; exact OS.bel BD, DX.trans (BD.mono sx)⟩
                    case measure => simp [intOf]; omega
                · have hltB3 : decide ((j : Int) < (k : Int)) = false := by simp; omega
                  obtain rfl : j = k := by omega
                  have OV4 := OV.bel DX
                  have sx := DX.size
                  have SN := OV4.snocV OV sx sW OS
                  clear hltB3 hlt3
                  go_wp2_with (at_builtin; refine wpList_apps _ rfl (.tmp 71) (.tmp 73) 42 rfl w.heap.size 33 j0 (.slice none 0 0) 24 Try.underlying42 hj hy0 hy1 hy2 rfl Q m d vs rfl OV4.1 1 1 #[.slice S q d2] rfl rfl (by simp [Value.oneCell']) (by decide) (by omega) (by decide) (by omega) ?_; intro g6 c6 w6 O6 G6 B6 hat6)
                  have OVn := SN g6 c6 w6 O6 G6 hat6
                  go_roundw
                  case rel => exact ⟨m + 1, _, _, _, by omega, by go_num, rfl, by rw [spreadTo_succ]; exact OVn, BX.trans B6⟩
                  case measure => simp [intOf]; omega
            · have hltB2 : decide ((m : Int) < (n : Int)) = false := by simp; omega
              obtain rfl : m = n := by omega
              rw [← HR.out] at OV
              go_wp2
              go_ret
              exact ⟨_, _, _, _, rfl, OV, BW⟩
        · have h6B : decide ((k : Int) > 60) = true := by simp; omega
          have h6C : decide (60 < (k : Int)) = true := by simp; omega
          have h6D : decide (60 < k) = true := by simp; omega
          have HN := Lib.hid (HRR.out.symm.trans (show spreadI us hs = [] by unfold spreadI; rw [if_neg (fun hh => by have := hh.2.1; rw [HH.out] at this; omega)]))
          clear h1 h60
          go_wp2_with (go_at_call 58; refine (C1.out _).mono ?_; rintro e w' ⟨rfl, rfl⟩)
          go_ret
          exact ⟨_, _, _, _, rfl, by rw [HN.out]; exact E1, C0⟩
      · have C1 := Lib.hid (fun W : World => l11Bundle_b (A := A) (c := c) (w := W) hn (decide_eq_false h1))
        have HN := Lib.hid (HRR.out.symm.trans (show spreadI us hs = [] by unfold spreadI; rw [if_neg (fun hh => h1 (by have := hh.1; unfold upOk at this; rw [HL.out] at this; exact this))]))
        clear h1
        go_wp2_with (go_at_call 58; refine (C1.out _).mono ?_; rintro e w' ⟨rfl, rfl⟩)
        go_ret
        exact ⟨_, _, _, _, rfl, by rw [HN.out]; exact E1, C0⟩
end Go.Proofs.Ytimddobedgopiaa
