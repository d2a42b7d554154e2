/-
  Chapter 16's program, rounds: what is proved here is what comesRound and HasRound return, and that they write nothing that was there but the search's own colours. The table of steps holds what the program's text lays; lengths up to 2^24.
-/
import Derived.Test.YthcfjnedpffbbaaDoorImp16j
namespace Go.Proofs.YthcfjnedpffbbaaDoor
open Go.RowKit

/-- A search in memory: marks, and colours behind them. -/
def SearchAt (w : World) (s : Nat) (f : Nat → Bool) (c : Nat → Nat) : Prop := s < w.heap.size ∧ (∀ j, j < 10000 → w.cell? ⟨s, j, none⟩ = some (.bool (f j))) ∧ (∀ u, u < 100 → w.cell? ⟨s, 10000 + u, none⟩ = some (.int .i64 (c u : Int))) ∧ ∀ j, w.frozen? ⟨s, j, none⟩ = false
theorem SearchAt.paint {w : World} {s u : Nat} {f : Nat → Bool} {c : Nat → Nat} (h : SearchAt w s f c) (hu : u < 100) (k : Nat) : SearchAt (w.setCell ⟨s, 10000 + u, none⟩ (.int .i64 (k : Int))) s f (upd c u k) := by
  obtain ⟨h0, h1, h2, h3⟩ := h
  refine ⟨by simpa using h0, fun j hj => ?_, fun v hv => ?_, fun j => by rw [World.frozen?_setCell]; exact h3 j⟩
  · rw [World.cell?_setCell_other _ _ _ _ (fun e => by injection e with _ e; omega)]
    exact h1 j hj
  · by_cases e : v = u
    · subst e
      rw [upd_self]
      exact World.cell?_setCell_same _ _ _ (h2 v hv)
    · rw [upd_ne _ _ e, World.cell?_setCell_other _ _ _ _ (fun e2 => by injection e2 with _ e2; omega)]
      exact h2 v hv
theorem SearchAt.row {w : World} {s u : Nat} {f : Nat → Bool} {c : Nat → Nat} (h : SearchAt w s f c) (hu : u < 100) : (loadVar 75 ⟨s, u * 100, none⟩).run Tryd.prog w = .ok (.agg (tab 100 (rowF f u))) w := by
  have hl : (tab 100 (rowF f u)).toList.length = 100 := by rw [Array.length_toList, tab_size]
  have := run_loadVar_mid (P := Tryd.prog) w s (u * 100) 75 (tab 100 (rowF f u)).toList _ (fun j v hv => by
    have hj : j < 100 := by have := (List.getElem?_eq_some_iff.1 hv).1; omega
    rw [h.2.1 (u * 100 + j) (by omega)]
    rw [Array.getElem?_toList, tab_at _ hj] at hv
    exact hv) Tryd.underlying75 rfl (by rw [hl]; exact (zero_of_info zero75).2)
  simpa using this
theorem one_grown16k (w : World) (B k : Nat) (v : Value) : w.grownBy (w.setCell ⟨B, k, none⟩ v) (some B) :=
  ⟨rfl, rfl, rfl, by simp, fun i _ hi => heap_setCell_other w ⟨B, k, none⟩ i v (fun e => hi (by simp [e]))⟩
theorem grown_two16 {a b c : World} {r : Option Nat} (h : a.grownBy b r) (k : b.grownBy c r) : a.grownBy c r :=
  ⟨k.os.trans h.os, k.tape.trans h.tape, k.output.trans h.output, Nat.le_trans h.size k.size, fun i hi hne => (k.block i (Nat.lt_of_lt_of_le hi h.size) hne).trans (h.block i hi hne)⟩
set_option maxRecDepth 100000 in
set_option maxHeartbeats 4000000 in
theorem comesRound_any {s : Nat} {f : Nat → Bool} {R : Nat → Nat → Prop} (hN : ∀ p q, R p q → p < 100 ∧ q < 100) (hf : ∀ p q, p < 100 → q < 100 → (f (p * 100 + q) = true ↔ R p q)) :
    ∀ (m : Nat) (u : Nat) (c : Nat → Nat) (W : World), SearchAt W s f c → SafeCol R c → u < 100 → (∀ g, c g = 1 → Path R g u) → (∃ L : List Nat, L.length ≤ m ∧ ∀ x, x < 100 → c x = 0 → x ∈ L) →
    Calls Tryd.prog 74 #[.pointer (some ⟨s, 0, none⟩), .int .i64 (u : Int)] W fun e W' => ∃ (b : Bool) (c' : Nat → Nat), e = .returned (.bool b) ∧ (b = true → Round R) ∧ (b = false → SearchAt W' s f c' ∧ SafeCol R c' ∧ Later c c' ∧ c' u = 2) ∧ W.grownBy W' (some s) := by
  intro m
  induction m with
  | zero =>
    intro u c W hS hC hu hP hL
    obtain ⟨L, hL1, hL2⟩ := hL
    obtain rfl : L = [] := List.length_eq_zero_iff.1 (by omega)
    have hc0 : c u ≠ 0 := fun h => by cases hL2 u hu h
    have hc2 := hC.2 u
    have hcell := hS.2.2.1 u hu
    by_cases h1 : c u = 1
    · rw [h1] at hcell
      have HR := Lib.hid (hP u h1).round
      clear hc0 hc2
      have u100 : (u : Int) < 100 := by omega
      go_enter Tryd.func74, Tryd.ntmps74
      go_wp2
      go_ret
      exact ⟨true, c, rfl, fun _ => HR.out, (fun h => by cases h), ⟨rfl, rfl, rfl, Nat.le_refl _, fun _ _ _ => rfl⟩⟩
    · have h2 : c u = 2 := by omega
      rw [h2] at hcell
      have HS := Lib.hid hS
      have u100 : (u : Int) < 100 := by omega
      clear hc0 hc2 h1
      go_enter Tryd.func74, Tryd.ntmps74
      go_wp2
      go_ret
      exact ⟨false, c, rfl, (fun h => by cases h), fun _ => ⟨HS.out, hC, Later.refl c, h2⟩, ⟨rfl, rfl, rfl, Nat.le_refl _, fun _ _ _ => rfl⟩⟩
  | succ m ih =>
    intro u c W hS hC hu hP hL
    have hc2 := hC.2 u
    have hcell := hS.2.2.1 u hu
    have u100 : (u : Int) < 100 := by omega
    by_cases h1 : c u = 1
    · rw [h1] at hcell
      have HR := Lib.hid (hP u h1).round
      clear hc2 ih
      go_enter Tryd.func74, Tryd.ntmps74
      go_wp2
      go_ret
      exact ⟨true, c, rfl, fun _ => HR.out, (fun h => by cases h), ⟨rfl, rfl, rfl, Nat.le_refl _, fun _ _ _ => rfl⟩⟩
    by_cases h2 : c u = 2
    · rw [h2] at hcell
      have HS := Lib.hid hS
      clear hc2 h1 ih
      go_enter Tryd.func74, Tryd.ntmps74
      go_wp2
      go_ret
      exact ⟨false, c, rfl, (fun h => by cases h), fun _ => ⟨HS.out, hC, Later.refl c, h2⟩, ⟨rfl, rfl, rfl, Nat.le_refl _, fun _ _ _ => rfl⟩⟩
    have h0 : c u = 0 := by omega
    rw [h0] at hcell
    have hfz := hS.2.2.2 (10000 + u)
    obtain ⟨W1, hW1⟩ : ∃ W1, W.setCell ⟨s, 10000 + u, none⟩ (.int .i64 1) = W1 := ⟨_, rfl⟩
    have S1 : SearchAt W1 s f (upd c u 1) := hW1 ▸ hS.paint hu 1
    have G1 : W.grownBy W1 (some s) := hW1 ▸ one_grown16k W s (10000 + u) _
    have HC1 := Lib.hid (safeCol_grey hC u)
    have hrow := S1.row hu
    have HIM : Hid (∀ (q : Nat), q < 100 → ∀ w, (Instr.index 75 (.agg (tab 100 (rowF f u))) (.int .i64 (q : Int))).run Tryd.prog w = .ok (.bool (rowF f u q)) w) := fun q hq w => index_mark (rowF f u) hq w
    generalize tab 100 (rowF f u) = C0 at hrow HIM
    have HH := Lib.hid (show (∀ g, c g = 1 → Path R g u) ∧ c u = 0 ∧ (∃ L : List Nat, L.length ≤ m + 1 ∧ ∀ x, x < 100 → c x = 0 → x ∈ L) from ⟨hP, h0, hL⟩)
    have HF := Lib.hid hf
    have HIH := Lib.hid ih
    have HNN := Lib.hid hN
    clear hP hL h0 h1 h2 hc2 ih hC hS hf hN
    go_enter Tryd.func74, Tryd.ntmps74
    go_upto_region 4 with fail
    clear hcell hfz hW1
    refine wp_region_lit ?_
    refine wpList_step (fun K hK0 => ?_)
    have hK := Lib.hid hK0
    clear hK0
    go_simp
    refine hK.out _ _ ?_
    clear hK
    (try simp only [Act.put, List.setIfInBounds_toArray, List.set_cons_zero, List.set_cons_succ])
    refine wpList_step (fun K hK0 => ?_)
    have hK := Lib.hid hK0
    clear hK0
    go_simp
    refine hK.out _ _ ?_
    clear hK
    (try simp only [Act.put, List.setIfInBounds_toArray, List.set_cons_zero, List.set_cons_succ])
    refine wpList_step (fun K hK0 => ?_)
    have hK := Lib.hid hK0
    clear hK0
    go_simp
    refine hK.out _ _ ?_
    clear hK
    (try simp only [Act.put, List.setIfInBounds_toArray, List.set_cons_zero, List.set_cons_succ])
    refine wpList_step (fun K hK0 => ?_)
    have hK := Lib.hid hK0
    clear hK0
    go_simp
    refine hK.out _ _ ?_
    clear hK
    (try simp only [Act.put, List.setIfInBounds_toArray, List.set_cons_zero, List.set_cons_succ])
    refine wpList_step (fun K hK0 => ?_)
    have hK := Lib.hid hK0
    clear hK0
    go_simp
    refine hK.out _ _ ?_
    clear hK
    (try simp only [Act.put, List.setIfInBounds_toArray, List.set_cons_zero, List.set_cons_succ])
    refine wpList_load16 rfl 75 (.tmp 30) rfl rfl hrow ?_
    simp only [Act.put, List.setIfInBounds_toArray, List.set_cons_zero, List.set_cons_succ]
    refine wpList_val16 rfl (v := .int .i64 0) (w' := W1) rfl ?_
    simp only [Act.put, List.setIfInBounds_toArray, List.set_cons_zero, List.set_cons_succ]
    refine wpList_nil ?_
    clear hrow
    go_wp2
    go_loopw [32] (fun t wr => ∃ (k : Nat) (c' : Nat → Nat), k ≤ 100 ∧ t = .int .i64 (k : Int) ∧ SearchAt wr s f c' ∧ Hid (SafeCol R c' ∧ Later (upd c u 1) c' ∧ (∀ v, v < k → R u v → c' v = 2)) ∧ W.grownBy wr (some s)) (fun t _ => 100 - (intOf t).toNat)
    case atStart =>
      have h9 : Hid (SafeCol R (upd c u 1) ∧ Later (upd c u 1) (upd c u 1) ∧ (∀ v, v < 0 → R u v → (upd c u 1) v = 2)) := ⟨HC1.out, Later.refl _, fun v hv => by omega⟩
      exact ⟨0, upd c u 1, by omega, rfl, S1, h9, G1⟩
    case round =>
      obtain ⟨k, c', hk, rfl, S, HQ, G⟩ := hrel
      by_cases hlt : k < 100
      · have hltB : decide ((k : Int) < 100) = true := by simp; omega
        have him := HIM.out k hlt
        have hpq := HF.out u k hu hlt
        obtain ⟨bb, hbb⟩ : ∃ bb, rowF f u k = bb := ⟨_, rfl⟩
        have hbR : bb = true ↔ R u k := by rw [← hbb]; exact hpq
        rw [hbb] at him
        clear hpq hbb
        cases bb
        · have HQ2 : Hid (SafeCol R c' ∧ Later (upd c u 1) c' ∧ (∀ v, v < k + 1 → R u v → c' v = 2)) := ⟨HQ.out.1, HQ.out.2.1, fun v hv hR => by
            by_cases e : v = k
            · subst e; exact absurd (hbR.2 hR) (by decide)
            · exact HQ.out.2.2 v (by omega) hR⟩
          clear hbR
          go_wp2
          go_roundw
          case rel => exact ⟨k + 1, c', by omega, by go_num, S, HQ2, G⟩
          case measure => simp [intOf]; omega
        · have hR := hbR.1 rfl
          have CK := HIH.out k c' wr S HQ.out.1 hlt (fun g hg => by
            have h1 := later_grey HQ.out.2.1 hg
            by_cases e : g = u
            · subst e; exact .one hR
            · rw [upd_ne _ _ e] at h1
              exact (HH.out.1 g h1).snoc hR) (by
            obtain ⟨L, hL1, hL2⟩ := HH.out.2.2
            have huL := hL2 u hu HH.out.2.1
            refine ⟨L.erase u, by rw [List.length_erase_of_mem huL]; omega, fun x hx h0 => ?_⟩
            have h1 := later_white HQ.out.2.1 h0
            by_cases e : x = u
            · subst e; rw [upd_self] at h1; cases h1
            · rw [upd_ne _ _ e] at h1
              exact (List.mem_erase_of_ne e).2 (hL2 x hx h1))
          have HCK := Lib.hid CK
          clear CK hbR
          go_wp2_with (fail)
          refine HCK.out.mono ?_
          rintro e w5 ⟨bb, c5, rfl, hb1, hb2, G5⟩
          have G6 := grown_two16 G G5
          cases bb
          · obtain ⟨S5, hC5, hL5, h52⟩ := hb2 rfl
            have HQ2 : Hid (SafeCol R c5 ∧ Later (upd c u 1) c5 ∧ (∀ v, v < k + 1 → R u v → c5 v = 2)) := ⟨hC5, HQ.out.2.1.trans hL5, fun v hv hR => by
              by_cases e : v = k
              · subst e; exact h52
              · exact later_black hL5 (HQ.out.2.2 v (by omega) hR)⟩
            clear hb1 hb2 hC5 hL5 h52 S
            go_wp2
            go_roundw
            case rel => exact ⟨k + 1, c5, by omega, by go_num, S5, HQ2, G6⟩
            case measure => simp [intOf]; omega
          · have HR := Lib.hid (hb1 rfl)
            clear hb1 hb2
            go_wp2
            go_ret
            exact ⟨true, c, rfl, fun _ => HR.out, (fun h => by cases h), G6⟩
      · have hltB : decide ((k : Int) < 100) = false := by simp; omega
        obtain rfl : k = 100 := by omega
        have hcell := S.2.2.1 u hu
        have hfz := S.2.2.2 (10000 + u)
        have HS2 := Lib.hid (S.paint hu 2)
        have HG2 := Lib.hid (grown_two16 G (one_grown16k wr s (10000 + u) (.int .i64 2)))
        have HE := Lib.hid (show SafeCol R (upd c' u 2) ∧ Later c (upd c' u 2) from ⟨safeCol_black HQ.out.1 u (fun v hv => (HNN.out u v hv).2) HQ.out.2.2, later_close HH.out.2.1 HQ.out.2.1⟩)
        go_wp2
        go_ret
        exact ⟨false, upd c' u 2, rfl, (fun h => by cases h), fun _ => ⟨HS2.out, HE.out.1, HE.out.2, upd_self _ _ _⟩, HG2.out⟩
end Go.Proofs.YthcfjnedpffbbaaDoor
