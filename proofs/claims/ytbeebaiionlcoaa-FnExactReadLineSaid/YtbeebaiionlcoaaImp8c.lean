/-
  Chapter 8's program, equal numbers that stand together: what is proved here is which ones the program's iterator gives, in which order. Condition: lengths up to 2^24.
-/
import Derived.Test.YtbeebaiionlcoaaImp8b
import Derived.RangeFuncBox
import Derived.RangeFuncLeaves
import Derived.Shelf.Abstract
import Derived.WalkKit
import Derived.OwnWalkIn
import Derived.TacticsInMore
import Derived.LoopNIn
import Derived.LoopIn
import Derived.Maps.AppendAt
import Derived.Sort.BigQuietIn
namespace Go.Proofs.Ytbeebaiionlcoaa
open Go.RowKit Go.Shelf

attribute [local go_sem] Oper.semAt_some

/-- A number, and how often it stands there. -/
abbrev Run8 := { p : Int × Nat // p.2 ≤ 16777216 }
def enc8 (x : Run8) : Array Value := #[.int .i64 x.1.1, .int .i64 (x.1.2 : Int)]
def vals8 (xs : List Run8) : List (Int × Nat) := xs.map (·.1)
theorem vals8_snoc (xs : List Run8) (x : Run8) : vals8 (xs ++ [x]) = vals8 xs ++ [x.1] := by simp [vals8]

set_option maxRecDepth 100000 in
set_option maxHeartbeats 8000000 in
theorem runs_any (m : Nat) (hm : 1 ≤ m) (l B1 n c n₁ Bo : Nat) (A : Option Addr) (zs : List Int) (w : World) (hbox : w.heap[B1]? = some (.cells #[.slice A n c] 23 (0, 0))) (h : Has w A n (ints .i64 zs)) (hn : n ≤ 16777216) (hB1 : B1 < n₁ ∧ B1 ≠ Bo) (hlist : ∀ b o, A = some ⟨b, o, none⟩ → 0 < n → b < n₁ ∧ b ≠ Bo) (J Jx : List Run8 → World → Prop)
    (W : World) (hW : But n₁ Bo w W) (hAb : AbidesFrom W.heap.size J)
    (hY : ∀ pre x W1, J pre W1 → pre.length < n → YieldAt Fence.wide (m - 1) Try.prog l (enc8 x) W1 fun e W' =>
      (e = .returned (.bool true) ∧ J (pre ++ [x]) W' ∧ But n₁ Bo W1 W') ∨ (e = .returned (.bool false) ∧ Jx (pre ++ [x]) W'))
    (h0 : J [] W) :
    CallsIn Fence.wide m Try.prog 54 #[.func (.yield l) #[] #[], .pointer (some ⟨B1, 0, none⟩)] W fun e W' => (∃ v, e = .returned v) ∧
      ((∃ ys, vals8 ys = rle zs ∧ J ys W') ∨ (∃ pre, vals8 pre <+: rle zs ∧ Jx pre W')) := by
  have HL := Lib.hid h.len
  have hdrew : ∀ pre W1 k, J pre W1 → J pre (W1.drewN k) := fun pre W1 k hJ => hAb _ _ _ none hJ (grown_of_below (below_drewN W1 k)) (fun r e => by cases e)
  have HD := Lib.hid hdrew
  have hcell : ∀ W1, But n₁ Bo w W1 → Hid (W1.cell? ⟨B1, 0, none⟩ = some (.slice A n c)) := fun W1 hB => (cell_of_row W1 B1 0 _ _ (0, 0) ((hB.block _ hB1.1 hB1.2).trans hbox)).trans rfl
  have HLI := Lib.hid hlist
  have HC := Lib.hid hcell
  clear hdrew hcell hAb hlist hB1
  refine callsIn_of_wp Try.func54 rfl trivial ?_ rfl
  simp only [Try.ntmps54, List.size_toArray, List.length_cons, List.length_nil, Nat.reduceAdd, Nat.reduceSub, Array.replicate_succ, Array.replicate_zero, List.push_toArray, List.append_toArray, List.nil_append, List.cons_append]
  gi_wp2
  gi_loopw [3, 4] (fun s t wr => ∃ (a : Nat) (pre : List Run8), a ≤ n ∧ s = .int .i64 (a : Int) ∧ t = .int .i64 (a : Int) ∧ pre.length ≤ a ∧ Hid (vals8 pre ++ rle (zs.drop a) = rle zs) ∧ J pre wr ∧ But n₁ Bo w wr) (fun s _ _ => n - (intOf s).toNat)
  case atStart =>
    have : Hid (vals8 [] ++ rle (zs.drop 0) = rle zs) := rfl
    exact ⟨0, [], Nat.zero_le _, rfl, rfl, Nat.le_refl _, this, h0, hW⟩
  case round =>
    obtain ⟨a, pre, ha, rfl, rfl, hpl, HV, hJ, hB⟩ := hrel
    have k0 := (HC.out _ hB).out
    by_cases hlt : a < n
    · have hltB : decide ((a : Int) < (n : Int)) = true := by simp; omega
      obtain ⟨b, o, x, rfl, _, hx, hc⟩ := h.at_ hlt
      obtain ⟨hbl, hbl2⟩ := HLI.out b o rfl (by omega)
      have HX := Lib.hid hx
      have HCC := Lib.hid hc
      clear hx hc
      gi_wp2
      gi_loopw [4] (fun t wr => ∃ e : Nat, a ≤ e ∧ e ≤ n ∧ t = .int .i64 (e : Int) ∧ Hid (∀ j, a ≤ j → j < e → zs[j]? = some x) ∧ J pre wr ∧ But n₁ Bo w wr) (fun t _ => n - (intOf t).toNat)
      case atStart =>
        have : Hid (∀ j, a ≤ j → j < a → zs[j]? = some x) := fun j h1 h2 => by omega
        exact ⟨a, Nat.le_refl _, ha, rfl, this, hJ, hB⟩
      case round =>
        obtain ⟨e, hae, hen, rfl, HA, hJ2, hB2⟩ := hrel
        have k1 := (HC.out _ hB2).out
        have k2 := (hB2.cell (p := ⟨b, o + a, none⟩) hbl hbl2).trans HCC.out
        have b1 : (a : Int) < (n : Int) := by omega
        by_cases hle : e < n
        · have hleB : decide ((e : Int) < (n : Int)) = true := by simp; omega
          have hleC : decide (e < n) = true := by simp; omega
          have b2 : (e : Int) < (n : Int) := by omega
          obtain ⟨b3, o3, y, hA3, _, hy, hcy⟩ := h.at_ hle
          injection hA3 with hA3; injection hA3 with q1 q2; subst q1 q2
          have k3 := (hB2.cell (p := ⟨b, o + e, none⟩) hbl hbl2).trans hcy
          by_cases hyx : y = x
          · have hyB : (y == x) = true := by simp [hyx]
            have HA2 : Hid (∀ j, a ≤ j → j < e + 1 → zs[j]? = some x) := fun j h1 h2 => by
              by_cases hj : j < e
              · exact HA.out j h1 hj
              · obtain rfl : j = e := by omega
                rw [hy, hyx]
            clear hy hcy hyx
            gi_wp2
            gi_big_quiet_th (fail)
            gi_wp2
            go_roundw
            case rel => exact ⟨e + 1, by omega, by omega, by go_num, HA2, HD.out _ _ _ hJ2, hB2.trans (But.of_below (below_drewN _ _))⟩
            case measure => simp [intOf]; omega
          · have hyB : (y == x) = false := by simp [hyx]
            have hne : e ≠ a := fun hq => by
              rw [hq, HX.out] at hy
              injection hy with hy
              exact hyx hy.symm
            have hea : a < e := by
              rcases Nat.lt_or_ge a e with hq | hq
              · exact hq
              · omega
            have hend : zs[e]? ≠ some x := by rw [hy]; intro h1; injection h1 with h1; exact hyx h1
            obtain ⟨d, hd⟩ : ∃ d, d = e - a := ⟨_, rfl⟩
            have hdn : d ≤ 16777216 := by omega
            have HR := Lib.hid (rle_at hea HA.out hend)
            have HV2 : Hid (vals8 (pre ++ [⟨(x, d), hdn⟩]) ++ rle (zs.drop e) = rle zs) := by
              have h1 := HV.out
              rw [HR.out, ← hd] at h1
              rw [vals8_snoc, List.append_assoc]; exact h1
            have dW : IntKind.i64.wrap ((e : Int) - (a : Int)) = (d : Int) := by rw [IntWalk.i64_in _ (by omega)]; omega
            have hpe : pre.length + 1 ≤ e := by omega
            clear hd hea hend HR hy hcy hyx
            gi_wp2
            gi_big_quiet_th (fail)
            have hJ4 := HD.out pre wr nq hJ2
            have hB4 : But n₁ Bo w (wr.drewN nq) := hB2.trans (But.of_below (below_drewN _ nq))
            have k4 := (HC.out _ hB4).out
            have k5 := (hB4.cell (p := ⟨b, o + a, none⟩) hbl hbl2).trans HCC.out
            obtain ⟨fn, tmps, assign, body, hyy, hR⟩ := hY pre ⟨(x, d), hdn⟩ (wr.drewN nq) hJ4 (by omega)
            dsimp only [enc8] at hyy
            clear k1 k2 k3
            gi_wp2
            refine hR.mono ?_
            rintro e2 W3 (⟨rfl, hJ3, hk3⟩ | ⟨rfl, hJx3⟩)
            · have hB3 := hB4.trans hk3
              gi_wp2
              go_roundw
              case rel => exact ⟨e, _, hen, rfl, rfl, by rw [List.length_append]; exact hpe, HV2, hJ3, hB3⟩
              case measure => simp [intOf]; omega
            · gi_wp2
              refine bodyPost_ret (results_none rfl _ _ _) rfl ?_
              exact ⟨⟨_, rfl⟩, .inr ⟨_, ⟨_, HV2.out⟩, hJx3⟩⟩
        · have hleB : decide ((e : Int) < (n : Int)) = false := by simp; omega
          have hleC : decide (e < n) = false := by simp; omega
          have hea : a < e := by
            rcases Nat.lt_or_ge a e with hq | hq
            · exact hq
            · omega
          have hend : zs[e]? ≠ some x := by rw [List.getElem?_eq_none (by rw [HL.out]; omega)]; intro h1; cases h1
          obtain ⟨d, hd⟩ : ∃ d, d = e - a := ⟨_, rfl⟩
          have hdn : d ≤ 16777216 := by omega
          have HR := Lib.hid (rle_at hea HA.out hend)
          have HV2 : Hid (vals8 (pre ++ [⟨(x, d), hdn⟩]) ++ rle (zs.drop e) = rle zs) := by
            have h1 := HV.out
            rw [HR.out, ← hd] at h1
            rw [vals8_snoc, List.append_assoc]; exact h1
          have dW : IntKind.i64.wrap ((e : Int) - (a : Int)) = (d : Int) := by rw [IntWalk.i64_in _ (by omega)]; omega
          have hpe : pre.length + 1 ≤ e := by omega
          clear hd hea hend HR
          gi_wp2
          gi_big_quiet_th (fail)
          have hJ4 := HD.out pre wr nq hJ2
          have hB4 : But n₁ Bo w (wr.drewN nq) := hB2.trans (But.of_below (below_drewN _ nq))
          have k4 := (HC.out _ hB4).out
          have k5 := (hB4.cell (p := ⟨b, o + a, none⟩) hbl hbl2).trans HCC.out
          obtain ⟨fn, tmps, assign, body, hyy, hR⟩ := hY pre ⟨(x, d), hdn⟩ (wr.drewN nq) hJ4 (by omega)
          dsimp only [enc8] at hyy
          clear k1 k2
          gi_wp2
          refine hR.mono ?_
          rintro e2 W3 (⟨rfl, hJ3, hk3⟩ | ⟨rfl, hJx3⟩)
          · have hB3 := hB4.trans hk3
            gi_wp2
            go_roundw
            case rel => exact ⟨e, _, hen, rfl, rfl, by rw [List.length_append]; exact hpe, HV2, hJ3, hB3⟩
            case measure => simp [intOf]; omega
          · gi_wp2
            refine bodyPost_ret (results_none rfl _ _ _) rfl ?_
            exact ⟨⟨_, rfl⟩, .inr ⟨_, ⟨_, HV2.out⟩, hJx3⟩⟩
    · have hltB : decide ((a : Int) < (n : Int)) = false := by simp; omega
      obtain rfl : a = n := by omega
      have HV2 : Hid (vals8 pre = rle zs) := by
        have h1 := HV.out
        rw [List.drop_of_length_le (by rw [HL.out]; omega)] at h1
        have : rle [] = [] := rfl
        rw [this, List.append_nil] at h1
        exact h1
      gi_wp2
      go_end0
      exact ⟨⟨_, rfl⟩, .inl ⟨_, HV2.out, hJ⟩⟩
end Go.Proofs.Ytbeebaiionlcoaa
