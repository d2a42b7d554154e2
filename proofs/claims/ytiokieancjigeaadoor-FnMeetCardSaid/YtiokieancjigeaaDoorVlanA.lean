/-
  Chapter 10's plain functions of the model, one port: what is proved here is what l10Port, VlanIn and TagOut return, and that they write nothing that was there. Condition: lengths up to 2^24.
-/
import Derived.Test.YtiokieancjigeaaDoorPorts
import Derived.Test.YtiokieancjigeaaDoorPar
import Derived.Deep.QuietTactic
import Derived.BigQuiet
namespace Go.Proofs.YtiokieancjigeaaDoor
open Go.RowKit

theorem below_allocP (w : World) (o : Obj) : Below w.heap.size w (w.alloc o) := (Below.refl _ _).alloc (Nat.le_refl _) _
theorem l10Vlan_any (n : Int) (w : World) : Calls Tryd.prog 51 #[.int .i64 n] w fun e w' => e = .returned (.bool (decide (1 ≤ n ∧ n ≤ 9))) ∧ w = w' := by
  go_enter Tryd.func51, Tryd.ntmps51
  go_wp2_with (go_at_call 29; refine (l1In_any _ _ _ _).mono ?_; rintro e w' ⟨rfl, rfl⟩)
  go_ret
  exact ⟨ret_bool (by simp), rfl⟩
theorem l10Vlan_yes {n : Int} (w : World) (h : 1 ≤ n ∧ n ≤ 9) : Calls Tryd.prog 51 #[.int .i64 n] w fun e w' => e = .returned (.bool true) ∧ w = w' := by have := l10Vlan_any n w; rwa [decide_eq_true h] at this
theorem l10Vlan_no {n : Int} (w : World) (h : ¬ (1 ≤ n ∧ n ≤ 9)) : Calls Tryd.prog 51 #[.int .i64 n] w fun e w' => e = .returned (.bool false) ∧ w = w' := by have := l10Vlan_any n w; rwa [decide_eq_false h] at this

/-- What the model has seen of a port's networks. -/
def Seen10 (q : Int) (l : List Int) : Prop := vOk l ∧ ∀ v ∈ l, v ≠ q
theorem seen10_step {q z : Int} {l : List Int} {k : Nat} (h : Seen10 q (l.take k)) (hz : l[k]? = some z) (h1 : 1 ≤ z ∧ z ≤ 9) (h2 : z ≠ q) (h3 : ∀ x ∈ l.take k, x < z) : Seen10 q (l.take (k + 1)) := by
  rw [List.take_add_one, hz]
  refine ⟨⟨fun v hv => ?_, ?_⟩, fun v hv => ?_⟩
  · rcases List.mem_append.1 hv with hv | hv
    · exact h.1.1 v hv
    · simp at hv; subst hv; exact h1
  · exact List.pairwise_append.2 ⟨h.1.2, List.pairwise_singleton .., fun a ha b hb => by simp at hb; subst hb; exact h3 a ha⟩
  · rcases List.mem_append.1 hv with hv | hv
    · exact h.2 v hv
    · simp at hv; subst hv; exact h2
theorem last_all {l : List Int} {k : Nat} {y z : Int} (h : vOk (l.take (k + 1))) (hy : l[k]? = some y) (hyz : y < z) : ∀ x ∈ l.take (k + 1), x < z := by
  intro x hx
  rw [List.take_add_one, hy] at hx h
  have hp := (List.pairwise_append.1 h.2).2.2
  rcases List.mem_append.1 hx with hx | hx
  · have := hp x hx y (by simp); omega
  · simp at hx; subst hx; exact hyz
theorem asc_bad {l : List Int} {k : Nat} {y z : Int} (hy : l[k]? = some y) (hz : l[k + 1]? = some z) (h : z ≤ y) : ¬ vOk l := by
  intro hv
  have h1 := List.getElem?_eq_some_iff.1 hy
  have h2 := List.getElem?_eq_some_iff.1 hz
  have := List.pairwise_iff_getElem.1 hv.2 k (k + 1) h1.1 h2.1 (by omega)
  rw [h1.2, h2.2] at this
  omega
theorem pOk_not_car {p : Port} (h : ¬ vOk p.2.2) : decide (pOk p) = false := decide_eq_false fun hh => h hh.2.2.2.1

set_option maxRecDepth 100000 in
set_option maxHeartbeats 8000000 in
theorem l10Port_b {B : Option Addr} {m d : Nat} {x q : Int} {l : List Int} {w : World} {b : Bool} (h : Has w B m (ints .i64 l)) (hm : m ≤ 16777216) (hb : decide (pOk (x, q, l)) = b) :
    Calls Tryd.prog 41 #[.agg #[.int .i64 x, .int .i64 q, .slice B m d]] w fun e w' => e = .returned (.bool b) ∧ Below w.heap.size w w' := by
  have HL := Lib.hid h.len
  have HB := Lib.hid hb
  clear hb
  obtain ⟨W, hW⟩ : ∃ W, w.alloc (.cells #[.int .i64 x, .int .i64 q, .slice B m d] 32) = W := ⟨_, rfl⟩
  have BA : Below w.heap.size w W := by rw [← hW]; exact below_allocP w _
  have hWn : W.heap[w.heap.size]? = some (.cells #[.int .i64 x, .int .i64 q, .slice B m d] 32 (0, 0)) := by rw [← hW]; exact heap_alloc_new w _
  obtain ⟨c0, c1, c2⟩ := cells3K hWn
  have hW2 := h.bel BA
  by_cases hk : 1 ≤ x ∧ x ≤ 2
  rotate_left
  · have C1 := Lib.hid (l1In_no x 1 2 W hk)
    have HE := Lib.hid (show decide (pOk (x, q, l)) = false from decide_eq_false fun hh => hk hh.1)
    clear hk hWn
    go_enter Tryd.func41, Tryd.ntmps41
    go_wp2_with (fail)
    refine C1.out.mono ?_
    rintro e w' ⟨rfl, rfl⟩
    go_wp2
    go_ret
    exact ⟨ret_bool (HE.out.symm.trans HB.out), BA⟩
  have C1 := Lib.hid (l1In_yes x 1 2 W hk.1 hk.2)
  by_cases hq : 1 ≤ q ∧ q ≤ 9
  rotate_left
  · have C2 := Lib.hid (l10Vlan_no W hq)
    have HE := Lib.hid (show decide (pOk (x, q, l)) = false from decide_eq_false fun hh => hq hh.2.1)
    clear hk hq hWn
    go_enter Tryd.func41, Tryd.ntmps41
    go_wp2_with (fail)
    refine C1.out.mono ?_
    rintro e w' ⟨rfl, rfl⟩
    go_wp2_with (fail)
    refine C2.out.mono ?_
    rintro e w' ⟨rfl, rfl⟩
    go_wp2
    go_ret
    exact ⟨ret_bool (HE.out.symm.trans HB.out), BA⟩
  have C2 := Lib.hid (l10Vlan_yes W hq)
  by_cases hpl : x = 1 ∧ 0 < m
  · obtain ⟨hx1, hm0⟩ := hpl
    have x1B : (x == 1) = true := by simp [hx1]
    have m0B : decide ((m : Int) > 0) = true := by simp; omega
    have m0C : decide (0 < (m : Int)) = true := by simp; omega
    have m0D : decide (0 < m) = true := by simp; omega
    have HE := Lib.hid (show decide (pOk (x, q, l)) = false from decide_eq_false fun hh => by
      have h1 : l = [] := hh.2.2.1 hx1
      have h2 := HL.out
      rw [h1] at h2
      simp at h2; omega)
    clear hk hq hWn hx1 hm0
    go_enter Tryd.func41, Tryd.ntmps41
    go_wp2_with (fail)
    refine C1.out.mono ?_
    rintro e w' ⟨rfl, rfl⟩
    go_wp2_with (fail)
    refine C2.out.mono ?_
    rintro e w' ⟨rfl, rfl⟩
    go_wp2
    go_ret
    exact ⟨ret_bool (HE.out.symm.trans HB.out), BA⟩
  have HOK : Hid (vOk l ∧ (∀ v ∈ l, v ≠ q) → pOk (x, q, l)) := fun hh => ⟨hk, hq, fun h1 => by
    have h2 := HL.out
    have : m = 0 := by have h1' : x = 1 := h1; omega
    rw [this] at h2
    exact List.length_eq_zero_iff.1 h2, hh.1, hh.2⟩
  obtain ⟨b1, hb1⟩ : ∃ v, (x == 1) = v := ⟨_, rfl⟩
  obtain ⟨b2, hb2⟩ : ∃ v, decide ((m : Int) > 0) = v := ⟨_, rfl⟩
  have hb3 : decide (0 < (m : Int)) = b2 := hb2
  have hb4 : decide (0 < m) = b2 := by rw [← hb2]; apply decide_eq_decide.2; omega
  have hbb : b1 = false ∨ (b1 = true ∧ b2 = false) := by
    by_cases h1 : x = 1
    · right
      refine ⟨by rw [← hb1]; simp [h1], by rw [← hb2]; simp; omega⟩
    · left; rw [← hb1]; simp [h1]
  have HQ := Lib.hid hq
  clear hk hq hpl
  go_enter Tryd.func41, Tryd.ntmps41
  go_wp2_with (fail)
  refine C1.out.mono ?_
  rintro e w' ⟨rfl, rfl⟩
  go_wp2_with (fail)
  refine C2.out.mono ?_
  rintro e w' ⟨rfl, rfl⟩
  rcases hbb with rfl | ⟨rfl, rfl⟩
  all_goals
    go_wp2
    go_loopw [3] (fun i wr => ∃ k : Nat, k ≤ m ∧ i = .int .i64 (k : Int) ∧ Hid (Seen10 q (l.take k)) ∧ Below W.heap.size W wr) (fun i _ => m - (intOf i).toNat)
    case atStart => exact ⟨0, Nat.zero_le _, rfl, Lib.hid ⟨⟨fun v hv => by simp at hv, by simp⟩, fun v hv => by simp at hv⟩, Below.refl _ _⟩
    case round =>
      obtain ⟨k, hk, rfl, HS, BW⟩ := hrel
      have hWr := (BW.block _ (Array.getElem?_eq_some_iff.1 hWn).1).trans hWn
      obtain ⟨r0, r1, r2⟩ := cells3K hWr
      have hH := hW2.bel BW
      by_cases hlt : k < m
      · have hltB : decide ((k : Int) < (m : Int)) = true := by simp; omega
        obtain ⟨bb, o, z, rfl, hbl, hx, hc⟩ := hH.at_ hlt
        have HX := Lib.hid hx
        have HM := Lib.hid (List.mem_of_getElem? hx)
        clear hx
        have i0 : (0 : Int) ≤ (k : Int) := by omega
        have i1 : (k : Int) < (m : Int) := by omega
        by_cases hz : 1 ≤ z ∧ z ≤ 9
        · have CV := Lib.hid (fun n => l10Vlan_yes (wr.drewN n) hz)
          by_cases hzq : z = q
          · have zB : (z == q) = true := by simp [hzq]
            have HE := Lib.hid (show decide (pOk (x, q, l)) = false from decide_eq_false fun hh => hh.2.2.2.2 z HM.out hzq)
            clear hz hzq
            go_wp2
            go_quiet (first | (go_at_call 51; exact Calls.quiet_of_same ((CV.out _).mono (fun e w' hh => ⟨hh.1, hh.2.symm⟩))))
            go_wp2
            go_ret
            exact ⟨ret_bool (HE.out.symm.trans HB.out), BA.trans ((BW.mono (by have := BA.size; omega)).trans (below_drewN _ _))⟩
          · have zB : (z == q) = false := by simp [hzq]
            rcases Nat.eq_zero_or_pos k with hk0 | hk0
            · subst hk0
              rw [Nat.add_zero] at hc
              have kB : decide (((0 : Nat) : Int) > 0) = false := rfl
              have kC : decide ((0 : Int) > 0) = false := rfl
              have HS2 := Lib.hid (seen10_step HS.out HX.out hz hzq (fun x hx => by simp at hx))
              clear hz hzq
              go_wp2
              go_quiet (first | (go_at_call 51; exact Calls.quiet_of_same ((CV.out _).mono (fun e w' hh => ⟨hh.1, hh.2.symm⟩))))
              go_wp2
              go_roundw
              case rel => exact ⟨1, by omega, by go_num, HS2, BW.trans (below_drewN _ _)⟩
              case measure => simp [intOf]; omega
            · obtain ⟨j, rfl⟩ : ∃ j, k = j + 1 := ⟨k - 1, by omega⟩
              obtain ⟨bb', o', y, hA', _, hy, hcy⟩ := hH.at_ (show j < m by omega)
              injection hA' with hA'
              injection hA' with e1 e2
              subst e1 e2
              have kB : decide (((j + 1 : Nat) : Int) > 0) = true := decide_eq_true (by omega)
              have kC : decide ((j : Int) + 1 > 0) = true := decide_eq_true (by omega)
              have kD : decide (0 < (j : Int) + 1) = true := decide_eq_true (by omega)
              have kW : IntKind.i64.wrap (((j + 1 : Nat) : Int) - 1) = (j : Int) := by rw [IntWalk.i64_in _ (by omega)]; omega
              have kW2 : IntKind.i64.wrap ((j : Int) + 1 - 1) = (j : Int) := by rw [IntWalk.i64_in _ (by omega)]; omega
              have j0 : (0 : Int) ≤ (j : Int) := by omega
              have j1 : (j : Int) < (m : Int) := by omega
              by_cases hyz : y < z
              · have yB : decide (y ≥ z) = false := by simp; omega
                have yC : decide (z ≤ y) = false := by simp; omega
                have HS2 := Lib.hid (seen10_step HS.out HX.out hz hzq (last_all HS.out.1 hy hyz))
                clear hz hzq hyz hy
                go_wp2
                go_quiet (first | (go_at_call 51; exact Calls.quiet_of_same ((CV.out _).mono (fun e w' hh => ⟨hh.1, hh.2.symm⟩))))
                go_wp2
                go_roundw
                case rel => exact ⟨j + 2, by omega, by go_num, HS2, BW.trans (below_drewN _ _)⟩
                case measure => simp [intOf]; omega
              · have yB : decide (y ≥ z) = true := by simp; omega
                have yC : decide (z ≤ y) = true := by simp; omega
                have HE := Lib.hid (pOk_not_car (p := (x, q, l)) (asc_bad hy HX.out (by omega)))
                clear hz hzq hyz hy
                go_wp2
                go_quiet (first | (go_at_call 51; exact Calls.quiet_of_same ((CV.out _).mono (fun e w' hh => ⟨hh.1, hh.2.symm⟩))))
                go_wp2
                go_ret
                exact ⟨ret_bool (HE.out.symm.trans HB.out), BA.trans ((BW.mono (by have := BA.size; omega)).trans (below_drewN _ _))⟩
        · have CV := Lib.hid (fun n => l10Vlan_no (wr.drewN n) hz)
          have HE := Lib.hid (pOk_not_car (p := (x, q, l)) (fun hv => hz (hv.1 z HM.out)))
          clear hz
          go_wp2
          go_quiet (first | (go_at_call 51; exact Calls.quiet_of_same ((CV.out _).mono (fun e w' hh => ⟨hh.1, hh.2.symm⟩))))
          go_wp2
          go_ret
          exact ⟨ret_bool (HE.out.symm.trans HB.out), BA.trans ((BW.mono (by have := BA.size; omega)).trans (below_drewN _ _))⟩
      · have hltB : decide ((k : Int) < (m : Int)) = false := by simp; omega
        obtain rfl : k = m := by omega
        have HE : Hid (decide (pOk (x, q, l)) = true) := by
          have h1 := HS.out
          have h2 := HL.out
          rw [List.take_of_length_le (by omega)] at h1
          exact decide_eq_true (HOK.out h1)
        go_wp2
        go_ret
        exact ⟨ret_bool (HE.out.symm.trans HB.out), BA.trans (BW.mono (by have := BA.size; omega))⟩

set_option maxHeartbeats 1000000 in
theorem l10Has_b {A : Option Addr} {n c : Nat} {zs : List Int} {v : Int} {w : World} {b : Bool} (h : Has w A n (ints .i64 zs)) (hn : n ≤ 16777216) (hb : decide (v ∈ zs) = b) :
    Calls Tryd.prog 42 #[.slice A n c, .int .i64 v] w fun e w' => e = .returned (.bool b) ∧ w = w' := by
  have HL := Lib.hid h.len
  have HB := Lib.hid hb
  clear hb
  go_enter Tryd.func42, Tryd.ntmps42
  go_wp2
  go_loop [5] (fun i => ∃ k : Nat, k ≤ n ∧ i = .int .i64 k ∧ Hid (∀ f ∈ zs.take k, f ≠ v)) (fun i => n - (intOf i).toNat)
  case atStart => exact ⟨0, Nat.zero_le _, rfl, Lib.hid (fun f hf => by simp at hf)⟩
  case round =>
    obtain ⟨k, hk, rfl, HF⟩ := hrel
    by_cases hlt : k < n
    · have hltB : decide ((k : Int) < (n : Int)) = true := by simp; omega
      obtain ⟨b, o, z, rfl, hbl, hx, hc⟩ := h.at_ hlt
      by_cases hz : z = v
      · have zB : (z == v) = true := by simp [hz]
        have HE := Lib.hid (show decide (v ∈ zs) = true from decide_eq_true (hz ▸ List.mem_of_getElem? hx))
        clear hx hz
        go_wp2
        go_ret
        exact ⟨ret_bool (HE.out.symm.trans HB.out), rfl⟩
      · have zB : (z == v) = false := by simp [hz]
        have HF2 : Hid (∀ f ∈ zs.take (k + 1), f ≠ v) := by
          have : ∀ f ∈ zs.take (k + 1), f ≠ v := by
            intro f hf
            rw [List.take_add_one, hx] at hf
            rcases List.mem_append.1 hf with hf | hf
            · exact HF.out f hf
            · simp at hf; subst hf; exact hz
          exact this
        clear hx hz
        go_wp2
        go_round
        case rel => exact ⟨k + 1, by omega, by go_num, HF2⟩
        case measure => simp [intOf]; omega
    · have hltB : decide ((k : Int) < (n : Int)) = false := by simp; omega
      obtain rfl : k = n := by omega
      have HE : Hid (decide (v ∈ zs) = false) := by
        have h1 := HF.out
        have h2 := HL.out
        rw [List.take_of_length_le (by omega)] at h1
        exact decide_eq_false fun hv => h1 v hv rfl
      go_wp2
      go_ret
      exact ⟨ret_bool (HE.out.symm.trans HB.out), rfl⟩
end Go.Proofs.YtiokieancjigeaaDoor
