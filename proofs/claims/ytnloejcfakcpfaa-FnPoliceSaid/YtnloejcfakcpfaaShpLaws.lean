/-
  The laws' own words for jobs: what is proved here is how jobs that came in are copied, compared and marked. Condition: lengths up to 2^24.
-/
import Derived.Test.YtnloejcfakcpfaaRowsD
namespace Go.Proofs.Ytnloejcfakcpfaa
open Go.RowKit

theorem Try.infoPulse : (Try.prog.info? 29).map (fun i => (i.zero, i.size, i.bytes)) = some (some (.agg #[.int .i64 0, .int .i64 0]), 2, 16) := by kernel_rfl
set_option maxHeartbeats 1000000 in
theorem toPulse_any (f t : Int) (w : World) : Calls Try.prog 64 #[.agg #[.int .i64 f, .int .i64 t]] w fun e w' => e = .returned (.agg #[.int .i64 f, .int .i64 t]) ∧ Below w.heap.size w w' := by
  go_enter Try.func64, Try.ntmps64
  go_wp2
  have hF : (((w.alloc (.cells #[.int .i64 f, .int .i64 t] 72)).alloc (.cells #[.int .i64 f, .int .i64 t] 29)).alloc (.cells #[.int .i64 f, .int .i64 t] 29)).heap[w.heap.size + 1]? = some (.cells #[.int .i64 f, .int .i64 t] 29 (0, 0)) := by
    rw [heap_alloc_old _ _ (by simp)]
    have := heap_alloc_new (w.alloc (.cells #[.int .i64 f, .int .i64 t] 72)) (.cells #[.int .i64 f, .int .i64 t] 29)
    simpa using this
  refine bodyPost_ret (results_cell_row rfl _ _ _ _ _ _ _ rfl hF Try.underlying29 rfl (by kernel_rfl)) rfl ?_
  exact ⟨rfl, ((((Below.refl _ _).alloc (Nat.le_refl _) _).alloc (by simp) _).alloc (by simp; omega) _)⟩
theorem szPulseS_any {A : Option Addr} {n c : Nat} {w : World} {L : Int} (hL : L = 1048576) (hn : n ≤ 9223372036854775807) :
    Calls Try.prog 35 #[.slice A n c, .int .i64 L] w fun e w' => e = .returned (.int .i64 (if n ≤ 1048576 then 1048576 - (n : Int) else -1)) ∧ w = w' := by
  subst hL
  by_cases h : n ≤ 1048576
  · have hB : decide ((1048576 : Int) - (n : Int) < 0) = false := by simp; omega
    rw [if_pos h]
    clear h
    go_enter Try.func35, Try.ntmps35
    go_wp2
    go_ret
    exact ⟨rfl, rfl⟩
  · have hB : decide ((1048576 : Int) - (n : Int) < 0) = true := by simp; omega
    rw [if_neg h]
    clear h
    go_enter Try.func35, Try.ntmps35
    go_wp2
    go_ret
    exact ⟨rfl, rfl⟩
set_option maxHeartbeats 2000000 in
theorem toPulseS_any {A : Option Addr} {n c : Nat} {hs : List Duo} {w : World} (h : HasD w A n hs) (hn : n ≤ 16777216) :
    Calls Try.prog 36 #[.slice A n c] w fun e w' => ∃ A' c', e = .returned (.slice A' n c') ∧ OwnD w' w.heap.size 29 A' n c' hs ∧ Below w.heap.size w w' := by
  obtain ⟨i0, hi, hz0, hz1, hz2⟩ := info_partsD Try.infoPulse
  have HLN := Lib.hid h.1
  go_enter Try.func36, Try.ntmps36
  go_wp2_with (at_make; refine wpList_make_full _ rfl _ _ 23 rfl w.heap.size 29 i0 (.agg #[.int .i64 0, .int .i64 0]) 2 Try.underlying23 hi hz0 hz1 .i64 .i64 _ _ n rfl rfl (by omega) (by omega) (by rw [hz2]; omega) (by unfold maxLen; omega) (Nat.le_refl _) ?_; intro w1 hown hgrow)
  rw [made_zerosD] at hown
  have O1 : OwnD w1 w.heap.size 29 (some ⟨w.heap.size, 0, none⟩) n n (List.replicate n (0, 0)) := hown
  have B1 : Below w.heap.size w w1 := below_of_grown hgrow (Nat.le_refl _) (fun k hk => by cases hk)
  have s1 : w.heap.size < w1.heap.size := by have := World.ownsRow.lt O1 w.heap.size rfl; omega
  clear hown hgrow
  go_loopw [4] (fun t wr => ∃ k : Nat, k ≤ n ∧ t = .int .i64 (k : Int) ∧ OwnD wr w.heap.size 29 (some ⟨w.heap.size, 0, none⟩) n n (hs.take k ++ List.replicate (n - k) (0, 0)) ∧ Below w.heap.size w wr) (fun t _ => n - (intOf t).toNat)
  case atStart => exact ⟨0, Nat.zero_le _, rfl, by simpa using O1, B1⟩
  case round =>
    obtain ⟨k, hk, rfl, O2, B2⟩ := hrel
    have hge := B2.size
    by_cases hlt : k < n
    · have hltB : decide ((k : Int) < (n : Int)) = true := by simp; omega
      obtain ⟨b, o, f, t, rfl, hbl, hx, d0, d1⟩ := (h.bel B2).at_ hlt
      have HST := Lib.hid (set_take hs (0, 0) k n HLN.out hlt (f, t) hx)
      clear hx
      go_wp2_with (fail)
      refine (toPulse_any f t wr).mono ?_
      rintro e w3 ⟨rfl, B3⟩
      have O3 : OwnD w3 w.heap.size 29 (some ⟨w.heap.size, 0, none⟩) n n (hs.take k ++ List.replicate (n - k) (0, 0)) := World.ownsRow.kept O2 (grown_of_below B3) (.inr (by simp [Value.ownBlock]))
      obtain ⟨O4, G4⟩ := O3.put k (f, t)
      rw [HST.out] at O4
      obtain ⟨x, _, c0, c1⟩ := O3.cells hlt
      have f1 : ∀ j, w3.frozen? ⟨w.heap.size, j, none⟩ = false := World.ownsRow.frozenAt O3
      have B4 : Below w.heap.size w _ := (B2.trans (B3.mono hge)).trans (below_of_grown G4 (by have := B3.size; omega) (fun j hj => by injection hj with hj; omega))
      clear O3 G4 B3
      go_wp2
      go_roundw
      case rel => exact ⟨k + 1, by omega, by go_num, O4, B4⟩
      case measure => simp [intOf]; omega
    · have hltB : decide ((k : Int) < (n : Int)) = false := by simp; omega
      obtain rfl : k = n := by omega
      rw [List.take_of_length_le (by rw [HLN.out]; omega), Nat.sub_self, List.replicate_zero, List.append_nil] at O2
      go_wp2
      go_ret
      exact ⟨_, _, rfl, O2, B2⟩
theorem eqPulse_any (f t : Int) (w : World) : Calls Try.prog 65 #[.agg #[.int .i64 f, .int .i64 t], .agg #[.int .i64 f, .int .i64 t]] w fun e w' => e = .returned (.bool true) ∧ Below w.heap.size w w' := by
  go_enter Try.func65, Try.ntmps65
  go_wp2
  go_ret
  exact ⟨rfl, ((Below.refl _ _).alloc (Nat.le_refl _) _).alloc (by simp) _⟩
set_option maxHeartbeats 2000000 in
theorem eqPulseS_same {A A' : Option Addr} {n c n' c' : Nat} {hs : List Duo} {w : World} (h : HasD w A n hs) (h' : HasD w A' n' hs) (hn : n ≤ 16777216) :
    Calls Try.prog 37 #[.slice A n c, .slice A' n' c'] w fun e w' => e = .returned (.bool true) ∧ Below w.heap.size w w' := by
  obtain rfl : n' = n := by have := h.1; have := h'.1; omega
  go_enter Try.func37, Try.ntmps37
  go_wp2
  go_loopw [5] (fun i wr => ∃ k : Nat, k ≤ n' ∧ i = .int .i64 k ∧ Below w.heap.size w wr) (fun i _ => n' - (intOf i).toNat)
  case atStart => exact ⟨0, Nat.zero_le _, rfl, Below.refl _ _⟩
  case round =>
    obtain ⟨k, hk, rfl, B⟩ := hrel
    have hge := B.size
    by_cases hlt : k < n'
    · have hltB : decide ((k : Int) < (n' : Int)) = true := by simp; omega
      obtain ⟨b, o, f, t, rfl, hbl, hx, d0, d1⟩ := (h.bel B).at_ hlt
      obtain ⟨b', o', f', t', rfl, hbl', hx', d0', d1'⟩ := (h'.bel B).at_ hlt
      have he : (f, t) = (f', t') := by rw [hx] at hx'; injection hx'
      injection he with e1 e2
      subst e1 e2
      clear hx hx'
      have HQ : ∀ W : World, Hid (Calls Try.prog 65 #[.agg #[.int .i64 f, .int .i64 t], .agg #[.int .i64 f, .int .i64 t]] W fun e w' => e = .returned (.bool true) ∧ Below W.heap.size W w') := fun W => eqPulse_any f t W
      have HQH := Lib.hid HQ
      clear HQ
      have DB : Below wr.heap.size wr wr.drew := (Below.refl _ _).drew
      go_wp2
      go_region_with (go_at_call 65; refine (HQH.out _).out.mono ?_; rintro e w5 ⟨rfl, B5⟩)
      all_goals
        have B6 := B.trans ((DB.trans B5).mono hge)
        go_wp2
        go_roundw
        case rel => exact ⟨k + 1, by omega, by go_num, B6⟩
        case measure => simp [intOf]; omega
    · have hltB : decide ((k : Int) < (n' : Int)) = false := by simp; omega
      obtain rfl : k = n' := by omega
      go_wp2
      go_ret
      exact ⟨rfl, B⟩
set_option maxHeartbeats 2000000 in
theorem markPulseS_any {A : Option Addr} {n c lo K : Nat} {hs : List Duo} {w : World} (h : OwnD w lo 29 A n c hs) (hn : n ≤ 16777216) (hK : K ≤ 1099511627776) :
    Calls Try.prog 39 #[.slice A n c, .int .i64 K] w fun e w' => e = .returned (.int .i64 ((K + 2 * n : Nat) : Int)) ∧ w.grownBy w' (A.map (·.block)) := by
  go_enter Try.func39, Try.ntmps39
  go_wp2
  go_loopw [1, 5] (fun q i wr => ∃ (k : Nat) (hs' : List Duo), k ≤ n ∧ i = .int .i64 k ∧ q = .int .i64 ((K + 2 * k : Nat) : Int) ∧ OwnD wr lo 29 A n c hs' ∧ w.grownBy wr (A.map (·.block))) (fun _ i _ => n - (intOf i).toNat)
  case atStart => exact ⟨0, hs, Nat.zero_le _, rfl, rfl, h, ⟨rfl, rfl, rfl, Nat.le_refl _, fun _ _ _ => rfl⟩⟩
  case round =>
    obtain ⟨k, hs', hk, rfl, rfl, O, G⟩ := hrel
    by_cases hlt : k < n
    · have hltB : decide ((k : Int) < (n : Int)) = true := by simp; omega
      obtain ⟨g, cap, hv, hg0, hg1⟩ := World.ownsRow.form O (by omega)
      injection hv with hA _ hcap
      subst hA hcap
      obtain ⟨x, _, c0, c1⟩ := O.cells hlt
      have f1 : ∀ j, wr.frozen? ⟨g, j, none⟩ = false := World.ownsRow.frozenAt O
      obtain ⟨O2, G2⟩ := O.put k ((K : Int) + 2 * (k : Int), (K : Int) + 2 * (k : Int) + 1)
      have G3 := gr_trans G G2
      clear O G2 G
      go_wp2
      exact ⟨⟨k + 1, _, by omega, by go_num, by go_num, O2, G3⟩, by simp [intOf]; omega⟩
    · have hltB : decide ((k : Int) < (n : Int)) = false := by simp; omega
      obtain rfl : k = n := by omega
      go_wp2
      go_ret
      exact ⟨rfl, G⟩

theorem Own.keep {w w' : World} {lo n c : Nat} {e : TypeId} {A B : Option Addr} {xs : List Value} (h : Own w lo e A n c xs) (hg : w.grownBy w' (B.map (·.block))) (hne : ∀ a, A = some a → ∀ b, B = some b → a.block ≠ b.block) : Own w' lo e A n c xs :=
  h.grown hg (fun a ha hb => by
    cases B with
    | none => cases hb
    | some b => exact hne a ha b rfl (by simpa using hb))
theorem OwnD.keep {w w' : World} {lo n c : Nat} {e : TypeId} {A B : Option Addr} {hs : List Duo} (h : OwnD w lo e A n c hs) (hg : w.grownBy w' (B.map (·.block))) (hne : ∀ a, A = some a → ∀ b, B = some b → a.block ≠ b.block) : OwnD w' lo e A n c hs :=
  World.ownsRow.kept h hg (by
    cases A with
    | none => exact .inl rfl
    | some a =>
      refine .inr (fun hb => ?_)
      cases B with
      | none => cases hb
      | some b => exact hne a rfl b rfl (by simpa [Value.ownBlock] using hb))
end Go.Proofs.Ytnloejcfakcpfaa
