/-
  Chapter 10's program, networks as bits and one port: what is proved here is what these functions return, and that they write nothing that was there. Condition: lengths up to 2^24.
-/
import Derived.Test.YtiokieancjigeaaDoorVlanB
namespace Go.Proofs.YtiokieancjigeaaDoor
open Go.RowKit

theorem isVlan_any (n : Int) (w : World) : Calls Tryd.prog 44 #[.int .i64 n] w fun e w' => e = .returned (.bool (decide (1 ≤ n ∧ n ≤ 9))) ∧ w = w' := by
  by_cases h1 : 1 ≤ n
  · have g1 : decide (n ≥ 1) = true := by simp; omega
    have g1' : decide (1 ≤ n) = true := by simp; omega
    by_cases h2 : n ≤ 9
    · have g2 : decide (n ≤ 9) = true := by simp; omega
      rw [show decide (1 ≤ n ∧ n ≤ 9) = true by simp; omega]
      clear h1 h2
      go_enter Tryd.func44, Tryd.ntmps44
      go_wp2
      go_ret
      exact ⟨rfl, rfl⟩
    · have g2 : decide (n ≤ 9) = false := by simp; omega
      rw [show decide (1 ≤ n ∧ n ≤ 9) = false by simp; omega]
      clear h1 h2
      go_enter Tryd.func44, Tryd.ntmps44
      go_wp2
      go_ret
      exact ⟨rfl, rfl⟩
  · have g1 : decide (n ≥ 1) = false := by simp; omega
    have g1' : decide (1 ≤ n) = false := by simp; omega
    rw [show decide (1 ≤ n ∧ n ≤ 9) = false by simp; omega]
    clear h1
    go_enter Tryd.func44, Tryd.ntmps44
    go_wp2
    go_ret
    exact ⟨rfl, rfl⟩
theorem isVlan_yes {n : Int} (w : World) (h : 1 ≤ n ∧ n ≤ 9) : Calls Tryd.prog 44 #[.int .i64 n] w fun e w' => e = .returned (.bool true) ∧ w = w' := by have := isVlan_any n w; rwa [decide_eq_true h] at this
theorem isVlan_no {n : Int} (w : World) (h : ¬ (1 ≤ n ∧ n ≤ 9)) : Calls Tryd.prog 44 #[.int .i64 n] w fun e w' => e = .returned (.bool false) ∧ w = w' := by have := isVlan_any n w; rwa [decide_eq_false h] at this

theorem and_mask10 {M k : Nat} (hk : k < 10) (hM : M < 1024) : bits .and .u64 (M : Int) (IntKind.u64.wrap (2 ^ k)) = ((M / 2 ^ k % 2 * 2 ^ k : Nat) : Int) := by
  have key : ∀ k : Fin 10, ∀ M : Fin 1024, bits .and .u64 (M.val : Int) (IntKind.u64.wrap (2 ^ k.val)) = ((M.val / 2 ^ k.val % 2 * 2 ^ k.val : Nat) : Int) := by decide +kernel
  exact key ⟨k, hk⟩ ⟨M, hM⟩
theorem or_mask10 {M k : Nat} (hk : k < 10) (hM : M < 2 ^ k) : bits .or .u64 (M : Int) (IntKind.u64.wrap (2 ^ k)) = ((M + 2 ^ k : Nat) : Int) := by
  have key : ∀ k : Fin 10, ∀ M : Fin 1024, M.val < 2 ^ k.val → bits .or .u64 (M.val : Int) (IntKind.u64.wrap (2 ^ k.val)) = ((M.val + 2 ^ k.val : Nat) : Int) := by decide +kernel
  exact key ⟨k, hk⟩ ⟨M, Nat.lt_of_lt_of_le hM (Nat.pow_le_pow_right (n := 2) (by omega) (show k ≤ 10 by omega))⟩ hM

set_option maxHeartbeats 1000000 in
theorem has_b {s : Nat} {v : Int} {b : Bool} (w : World) (hs : s < 1024) (hb : hasS s v = b) : Calls Tryd.prog 45 #[.int .u64 (s : Int), .int .i64 v] w fun e w' => e = .returned (.bool b) ∧ w = w' := by
  have HB := Lib.hid hb
  clear hb
  by_cases hv : 1 ≤ v ∧ v ≤ 9
  · have C := Lib.hid (isVlan_yes w hv)
    obtain ⟨V, rfl⟩ := Int.eq_ofNat_of_zero_le (show 0 ≤ v by omega)
    have hA := and_mask10 (k := V) (by omega) hs
    have HE := Lib.hid (show hasS s (V : Int) = decide (s / 2 ^ V % 2 = 1) by unfold hasS; rw [decide_eq_true hv, Bool.true_and]; simp)
    obtain ⟨q, hq⟩ : ∃ q, s / 2 ^ V % 2 = q := ⟨_, rfl⟩
    have hv1 : V ≤ 9 := by omega
    have hp : 0 < 2 ^ V := Nat.two_pow_pos V
    rw [hq] at hA HE
    by_cases h1 : q = 1
    · subst h1
      have h0 : bits .and .u64 (s : Int) (IntKind.u64.wrap (2 ^ V)) = ((2 ^ V : Nat) : Int) := by rw [hA, Nat.one_mul]
      have hz : (bits .and .u64 (s : Int) (IntKind.u64.wrap (2 ^ V)) != 0) = true := by rw [h0]; exact bne_iff_ne.2 (by omega)
      clear hA h0 hp hq hv
      go_enter Tryd.func45, Tryd.ntmps45
      go_wp2_with (fail)
      refine C.out.mono ?_
      rintro e w' ⟨rfl, rfl⟩
      go_wp2
      go_ret
      exact ⟨ret_bool (by rw [← HB.out, HE.out]; rfl), rfl⟩
    · have hq0 : q = 0 := by have := Nat.mod_lt (s / 2 ^ V) (show 0 < 2 by omega); omega
      subst hq0
      have h0 : bits .and .u64 (s : Int) (IntKind.u64.wrap (2 ^ V)) = 0 := by rw [hA, Nat.zero_mul]; rfl
      have hz : (bits .and .u64 (s : Int) (IntKind.u64.wrap (2 ^ V)) != 0) = false := by rw [h0]; rfl
      clear hA hp hq hv h1 h0
      go_enter Tryd.func45, Tryd.ntmps45
      go_wp2_with (fail)
      refine C.out.mono ?_
      rintro e w' ⟨rfl, rfl⟩
      go_wp2
      go_ret
      exact ⟨ret_bool (by rw [← HB.out, HE.out]; rfl), rfl⟩
  · have C := Lib.hid (isVlan_no w hv)
    have HE := Lib.hid (show hasS s v = false by unfold hasS; rw [decide_eq_false hv, Bool.false_and])
    clear hv
    go_enter Tryd.func45, Tryd.ntmps45
    go_wp2_with (fail)
    refine C.out.mono ?_
    rintro e w' ⟨rfl, rfl⟩
    go_wp2
    go_ret
    exact ⟨ret_bool (by rw [← HB.out, HE.out]), rfl⟩

theorem vok_step {z : Int} {l : List Int} {k : Nat} (h : vOk (l.take k)) (hz : l[k]? = some z) (h1 : 1 ≤ z ∧ z ≤ 9) (h3 : ∀ x ∈ l.take k, x < z) : vOk (l.take (k + 1)) := by
  rw [List.take_add_one, hz]
  refine ⟨fun v hv => ?_, ?_⟩
  · rcases List.mem_append.1 hv with hv | hv
    · exact h.1 v hv
    · simp at hv; subst hv; exact h1
  · exact List.pairwise_append.2 ⟨h.2, List.pairwise_singleton .., fun a ha b hb => by simp at hb; subst hb; exact h3 a ha⟩
theorem vok_bad {l : List Int} {k : Nat} {x z : Int} (hx : x ∈ l.take k) (hz : l[k]? = some z) (h : z ≤ x) : ¬ vOk l := by
  intro hv
  obtain ⟨i, hi⟩ := List.getElem?_of_mem hx
  have h1 := List.getElem?_eq_some_iff.1 hi
  have h2 := List.getElem?_eq_some_iff.1 hz
  obtain ⟨hl, he⟩ := h1
  have hik : i < k := by rw [List.length_take] at hl; omega
  have hil : i < l.length := by rw [List.length_take] at hl; omega
  rw [List.getElem_take] at he
  have := List.pairwise_iff_getElem.1 hv.2 i k hil h2.1 hik
  rw [h2.2, he] at this
  omega
def setR (l : List Int) : Nat × Bool := if vOk l then (vset l, true) else (0, false)
theorem setR_yes {l : List Int} (h : vOk l) : setR l = (vset l, true) := by unfold setR; rw [if_pos h]
theorem setR_no {l : List Int} (h : ¬ vOk l) : setR l = (0, false) := by unfold setR; rw [if_neg h]
theorem ret_set {s s' : Nat} {b b' : Bool} (h : (s, b) = (s', b')) : Ending.returned (.tuple #[.int .u64 (s : Int), .bool b]) = .returned (.tuple #[.int .u64 (s' : Int), .bool b']) := by cases h; rfl
theorem vset_take {l : List Int} {k : Nat} {z : Int} (hz : l[k]? = some z) : vset (l.take (k + 1)) = vset (l.take k) + 2 ^ z.toNat := by rw [List.take_add_one, hz]; exact vset_snoc _ _

set_option maxHeartbeats 2000000 in
theorem vlanSetOf_r {A : Option Addr} {n c : Nat} {zs : List Int} {w : World} {s : Nat} {b : Bool} (h : Has w A n (ints .i64 zs)) (hn : n ≤ 16777216) (hr : setR zs = (s, b)) :
    Calls Tryd.prog 43 #[.slice A n c] w fun e w' => e = .returned (.tuple #[.int .u64 (s : Int), .bool b]) ∧ w = w' := by
  have HL := Lib.hid h.len
  have HB := Lib.hid hr
  clear hr
  go_enter Tryd.func43, Tryd.ntmps43
  go_wp2
  go_loop [4, 9] (fun u i => ∃ k : Nat, k ≤ n ∧ i = .int .i64 (k : Int) ∧ u = .int .u64 (vset (zs.take k) : Int) ∧ Hid (vOk (zs.take k))) (fun _ i => n - (intOf i).toNat)
  case atStart => exact ⟨0, Nat.zero_le _, rfl, rfl, Lib.hid ⟨fun v hv => by simp at hv, by simp⟩⟩
  case round =>
    obtain ⟨k, hk, rfl, rfl, HF⟩ := hrel
    by_cases hlt : k < n
    · have hltB : decide ((k : Int) < (n : Int)) = true := by simp; omega
      obtain ⟨b, o, z, rfl, hbl, hx, hc⟩ := h.at_ hlt
      by_cases hz : 1 ≤ z ∧ z ≤ 9
      · have C := Lib.hid (isVlan_yes w hz)
        obtain ⟨V, rfl⟩ := Int.eq_ofNat_of_zero_le (show 0 ≤ z by omega)
        have hV : V ≤ 9 := by omega
        have HX := Lib.hid (vset_take hx)
        obtain ⟨M, hM⟩ : ∃ M, vset (zs.take k) = M := ⟨_, rfl⟩
        by_cases hall : ∀ x ∈ zs.take k, x < (V : Int)
        · have hlt2 : M < 2 ^ V := hM ▸ vset_lt _ V HF.out hall
          have hO := or_mask10 (k := V) (by omega) hlt2
          have HF2 := Lib.hid (vok_step HF.out hx hz hall)
          have d0 : (M : Int) / 2 ^ V = 0 := by rw [show (2 : Int) ^ V = ((2 ^ V : Nat) : Int) by simp]; rw [← Int.natCast_ediv, Nat.div_eq_of_lt hlt2]; rfl
          have d1 : (M : Int).fdiv (2 ^ V) = 0 := by rw [Int.fdiv_eq_ediv_of_nonneg _ (by exact Int.le_of_lt (Int.pow_pos (by decide)))]; exact d0
          rw [hM] at HX ⊢
          clear hx hz hall
          go_wp2_with (fail)
          refine C.out.mono ?_
          rintro e w' ⟨rfl, rfl⟩
          go_wp2
          go_round
          case rel => exact ⟨k + 1, by omega, by go_num, by rw [HX.out]; simp, HF2⟩
          case measure => simp [intOf]; omega
        · obtain ⟨x, hxm, hxz⟩ : ∃ x ∈ zs.take k, ¬ x < (V : Int) := by
            apply Classical.byContradiction
            intro hne
            exact hall fun x hx => Classical.byContradiction fun h2 => hne ⟨x, hx, h2⟩
          have hge : 2 ^ V ≤ M := by
            have h1 := vset_ge hxm
            have h2 : 2 ^ V ≤ 2 ^ x.toNat := Nat.pow_le_pow_right (by omega) (by omega)
            rw [hM] at h1
            exact Nat.le_trans h2 h1
          have HE := Lib.hid (setR_no (vok_bad hxm hx (by omega)))
          have dp : 0 < M / 2 ^ V := Nat.div_pos hge (Nat.two_pow_pos V)
          have d0 : (M : Int) / 2 ^ V = ((M / 2 ^ V : Nat) : Int) := by rw [show (2 : Int) ^ V = ((2 ^ V : Nat) : Int) by simp]; rw [← Int.natCast_ediv]
          have d1 : (M : Int).fdiv (2 ^ V) = ((M / 2 ^ V : Nat) : Int) := by rw [Int.fdiv_eq_ediv_of_nonneg _ (by exact Int.le_of_lt (Int.pow_pos (by decide)))]; exact d0
          obtain ⟨Q, hQ⟩ : ∃ Q, M / 2 ^ V = Q := ⟨_, rfl⟩
          rw [hQ] at dp d0 d1
          have nB : ((Q : Int) != 0) = true := by simp; omega
          rw [hM] at HX ⊢
          clear hx hz hall hxm hxz hge dp hQ
          go_wp2_with (fail)
          refine C.out.mono ?_
          rintro e w' ⟨rfl, rfl⟩
          go_wp2
          go_ret2
          exact ⟨ret_set (HE.out.symm.trans HB.out), rfl⟩
      · have HE := Lib.hid (setR_no (l := zs) (fun hh => hz (hh.1 z (List.mem_of_getElem? hx))))
        have C := Lib.hid (isVlan_no w hz)
        clear hx hz
        go_wp2_with (fail)
        refine C.out.mono ?_
        rintro e w' ⟨rfl, rfl⟩
        go_wp2
        go_ret2
        exact ⟨ret_set (HE.out.symm.trans HB.out), rfl⟩
    · have hltB : decide ((k : Int) < (n : Int)) = false := by simp; omega
      obtain rfl : k = n := by omega
      have HT := Lib.hid (show zs.take k = zs from List.take_of_length_le (by have := HL.out; omega))
      have HE : Hid (setR zs = (vset zs, true)) := by
        have h1 := HF.out
        rw [HT.out] at h1
        exact setR_yes h1
      rw [HT.out]
      go_wp2
      go_ret2
      exact ⟨ret_set (HE.out.symm.trans HB.out), rfl⟩
end Go.Proofs.YtiokieancjigeaaDoor
