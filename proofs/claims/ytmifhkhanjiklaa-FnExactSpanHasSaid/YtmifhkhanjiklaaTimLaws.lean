/-
  The laws' own words for exchanges and spans: what is proved here is how those that came in are copied and compared. Condition: lengths up to 2^24.
-/
import Derived.Test.YtmifhkhanjiklaaRowsQ
import Derived.Test.YtmifhkhanjiklaaPar
import Derived.Laws.StructEq
namespace Go.Proofs.Ytmifhkhanjiklaa
open Go.RowKit

theorem set_take15 {α : Type} (hs : List α) (d : α) (k n : Nat) (hl : hs.length = n) (hk : k < n) (x : α) (hx : hs[k]? = some x) : (hs.take k ++ List.replicate (n - k) d).set k x = hs.take (k + 1) ++ List.replicate (n - (k + 1)) d := by
  rw [List.set_append_right _ _ (by rw [List.length_take]; omega), List.length_take, show min k hs.length = k by omega, Nat.sub_self, show n - k = (n - (k + 1)) + 1 by omega, List.replicate_succ, List.set_cons_zero, List.take_add_one, hx]
  simp
theorem Try.infoExchange15 : (Try.prog.info? 26).map (fun i => (i.zero, i.size, i.bytes)) = some (some (.agg #[.int .i64 0, .int .i64 0, .int .i64 0, .int .i64 0]), 4, 32) := by kernel_rfl
set_option maxHeartbeats 1000000 in
theorem toExchange_any (x y z u : Int) (w : World) : Calls Try.prog 38 #[.agg #[.int .i64 x, .int .i64 y, .int .i64 z, .int .i64 u]] w fun e w' => e = .returned (.agg #[.int .i64 x, .int .i64 y, .int .i64 z, .int .i64 u]) ∧ Below w.heap.size w w' := by
  go_enter Try.func38, Try.ntmps38
  go_wp2
  have hF : (((w.alloc (.cells #[.int .i64 x, .int .i64 y, .int .i64 z, .int .i64 u] 47)).alloc (.cells #[.int .i64 x, .int .i64 y, .int .i64 z, .int .i64 u] 26)).alloc (.cells #[.int .i64 x, .int .i64 y, .int .i64 z, .int .i64 u] 26)).heap[w.heap.size + 1]? = some (.cells #[.int .i64 x, .int .i64 y, .int .i64 z, .int .i64 u] 26 (0, 0)) := by
    rw [heap_alloc_old _ _ (by simp)]
    have := heap_alloc_new (w.alloc (.cells #[.int .i64 x, .int .i64 y, .int .i64 z, .int .i64 u] 47)) (.cells #[.int .i64 x, .int .i64 y, .int .i64 z, .int .i64 u] 26)
    simpa using this
  refine bodyPost_ret (results_cell_row rfl _ _ _ _ _ _ _ rfl hF Try.underlying26 rfl (by kernel_rfl)) rfl ?_
  exact ⟨rfl, ((((Below.refl _ _).alloc (Nat.le_refl _) _).alloc (by simp) _).alloc (by simp; omega) _)⟩
theorem szExchangeS_any {A : Option Addr} {n c : Nat} {w : World} {L : Int} (hL : L = 1048576) (hn : n ≤ 9223372036854775807) :
    Calls Try.prog 41 #[.slice A n c, .int .i64 L] w fun e w' => e = .returned (.int .i64 (if n ≤ 1048576 then 1048576 - (n : Int) else -1)) ∧ w = w' := by
  subst hL
  by_cases h : n ≤ 1048576
  · have hB : decide ((1048576 : Int) - (n : Int) < 0) = false := by simp; omega
    rw [if_pos h]
    clear h
    go_enter Try.func41, Try.ntmps41
    go_wp2
    go_ret
    exact ⟨rfl, rfl⟩
  · have hB : decide ((1048576 : Int) - (n : Int) < 0) = true := by simp; omega
    rw [if_neg h]
    clear h
    go_enter Try.func41, Try.ntmps41
    go_wp2
    go_ret
    exact ⟨rfl, rfl⟩
set_option maxHeartbeats 2000000 in
theorem toExchangeS_any {A : Option Addr} {n c : Nat} {hs : List Quad} {w : World} (h : HasQ w A n hs) (hn : n ≤ 16777216) :
    Calls Try.prog 42 #[.slice A n c] w fun e w' => ∃ A' c', e = .returned (.slice A' n c') ∧ OwnQ w' w.heap.size 26 A' n c' hs ∧ Below w.heap.size w w' := by
  obtain ⟨i0, hi, hz0, hz1, hz2⟩ := info_partsD Try.infoExchange15
  have HLN := Lib.hid h.1
  go_enter Try.func42, Try.ntmps42
  go_wp2_with (at_make; refine wpList_make_full _ rfl _ _ 38 rfl w.heap.size 26 i0 (.agg #[.int .i64 0, .int .i64 0, .int .i64 0, .int .i64 0]) 4 Try.underlying38 hi hz0 hz1 .i64 .i64 _ _ n rfl rfl (by omega) (by omega) (by rw [hz2]; omega) (by unfold maxLen; omega) (Nat.le_refl _) ?_; intro w1 hown hgrow)
  rw [made_zerosQ] at hown
  have O1 : OwnQ w1 w.heap.size 26 (some ⟨w.heap.size, 0, none⟩) n n (List.replicate n (0, 0, 0, 0)) := hown
  have B1 : Below w.heap.size w w1 := below_of_grown hgrow (Nat.le_refl _) (fun k hk => by cases hk)
  have s1 : w.heap.size < w1.heap.size := by have := World.ownsRow.lt O1 w.heap.size rfl; omega
  clear hown hgrow
  go_loopw [4] (fun t wr => ∃ k : Nat, k ≤ n ∧ t = .int .i64 (k : Int) ∧ OwnQ wr w.heap.size 26 (some ⟨w.heap.size, 0, none⟩) n n (hs.take k ++ List.replicate (n - k) (0, 0, 0, 0)) ∧ Below w.heap.size w wr) (fun t _ => n - (intOf t).toNat)
  case atStart => exact ⟨0, Nat.zero_le _, rfl, by simpa using O1, B1⟩
  case round =>
    obtain ⟨k, hk, rfl, O2, B2⟩ := hrel
    have hge := B2.size
    by_cases hlt : k < n
    · have hltB : decide ((k : Int) < (n : Int)) = true := by simp; omega
      obtain ⟨b, o, x, y, z, u, rfl, hbl, hx, d0, d1, d2, d3⟩ := (h.bel B2).at_ hlt
      have HST := Lib.hid (set_take15 hs (0, 0, 0, 0) k n HLN.out hlt (x, y, z, u) hx)
      clear hx
      go_wp2_with (fail)
      refine (toExchange_any x y z u wr).mono ?_
      rintro e w3 ⟨rfl, B3⟩
      have O3 : OwnQ w3 w.heap.size 26 (some ⟨w.heap.size, 0, none⟩) n n (hs.take k ++ List.replicate (n - k) (0, 0, 0, 0)) := World.ownsRow.kept O2 (grown_of_below B3) (.inr (by simp [Value.ownBlock]))
      obtain ⟨O4, G4⟩ := O3.put k (x, y, z, u)
      rw [HST.out] at O4
      obtain ⟨q, _, c0, c1, c2, c3⟩ := O3.cells hlt
      have f1 : ∀ j, w3.frozen? ⟨w.heap.size, j, none⟩ = false := World.ownsRow.frozenAt O3
      have B4 : Below w.heap.size w _ := (B2.trans (B3.mono hge)).trans (below_of_grown G4 (by have := B3.size; omega) (fun j hj => by injection hj with hj; omega))
      clear O3 G4 B3
      go_wp2
      go_roundw
      case rel => exact ⟨k + 1, by omega, by go_num, O4, B4⟩
      case measure => simp [intOf]; omega
    · have hltB : decide ((k : Int) < (n : Int)) = false := by simp; omega
      obtain rfl : k = n := by omega
      rw [List.take_of_length_le (by rw [HLN.out]; omega), Nat.sub_self, List.replicate_zero, List.append_nil] at O2
      go_wp2
      go_ret
      exact ⟨_, _, rfl, O2, B2⟩
theorem eqExchange_any (x y z u : Int) (w : World) : Calls Try.prog 39 #[.agg #[.int .i64 x, .int .i64 y, .int .i64 z, .int .i64 u], .agg #[.int .i64 x, .int .i64 y, .int .i64 z, .int .i64 u]] w fun e w' => e = .returned (.bool true) ∧ Below w.heap.size w w' := by
  go_enter Try.func39, Try.ntmps39
  go_wp2
  go_ret
  exact ⟨rfl, ((Below.refl _ _).alloc (Nat.le_refl _) _).alloc (by simp) _⟩
set_option maxHeartbeats 2000000 in
theorem eqExchangeS_same {A A' : Option Addr} {n c n' c' : Nat} {hs : List Quad} {w : World} (h : HasQ w A n hs) (h' : HasQ w A' n' hs) (hn : n ≤ 16777216) :
    Calls Try.prog 43 #[.slice A n c, .slice A' n' c'] w fun e w' => e = .returned (.bool true) ∧ Below w.heap.size w w' := by
  obtain rfl : n' = n := by have := h.1; have := h'.1; omega
  go_enter Try.func43, Try.ntmps43
  go_wp2
  go_loopw [5] (fun i wr => ∃ k : Nat, k ≤ n' ∧ i = .int .i64 k ∧ Below w.heap.size w wr) (fun i _ => n' - (intOf i).toNat)
  case atStart => exact ⟨0, Nat.zero_le _, rfl, Below.refl _ _⟩
  case round =>
    obtain ⟨k, hk, rfl, B⟩ := hrel
    have hge := B.size
    by_cases hlt : k < n'
    · have hltB : decide ((k : Int) < (n' : Int)) = true := by simp; omega
      obtain ⟨b, o, x, y, z, u, rfl, hbl, hx, d0, d1, d2, d3⟩ := (h.bel B).at_ hlt
      obtain ⟨b', o', x', y', z', u', rfl, hbl', hx', d0', d1', d2', d3'⟩ := (h'.bel B).at_ hlt
      have he : (x, y, z, u) = (x', y', z', u') := by rw [hx] at hx'; injection hx'
      injection he with e1 he
      injection he with e2 he
      injection he with e3 e4
      subst e1 e2 e3 e4
      clear hx hx'
      have HQ : ∀ W : World, Hid (Calls Try.prog 39 #[.agg #[.int .i64 x, .int .i64 y, .int .i64 z, .int .i64 u], .agg #[.int .i64 x, .int .i64 y, .int .i64 z, .int .i64 u]] W fun e w' => e = .returned (.bool true) ∧ Below W.heap.size W w') := fun W => eqExchange_any x y z u W
      have HQH := Lib.hid HQ
      clear HQ
      have DB : Below wr.heap.size wr wr.drew := (Below.refl _ _).drew
      go_wp2
      go_region_with (go_at_call 39; refine (HQH.out _).out.mono ?_; rintro e w5 ⟨rfl, B5⟩)
      all_goals
        have B6 := B.trans ((DB.trans B5).mono hge)
        go_wp2
        go_roundw
        case rel => exact ⟨k + 1, by omega, by go_num, B6⟩
        case measure => simp [intOf]; omega
    · have hltB : decide ((k : Int) < (n' : Int)) = false := by simp; omega
      obtain rfl : k = n' := by omega
      go_wp2
      go_ret
      exact ⟨rfl, B⟩
theorem Try.infoSpan15 : (Try.prog.info? 30).map (fun i => (i.zero, i.size, i.bytes)) = some (some (.agg #[.int .i64 0, .int .i64 0]), 2, 16) := by kernel_rfl
set_option maxHeartbeats 1000000 in
theorem toSpan_any (x y : Int) (w : World) : Calls Try.prog 47 #[.agg #[.int .i64 x, .int .i64 y]] w fun e w' => e = .returned (.agg #[.int .i64 x, .int .i64 y]) ∧ Below w.heap.size w w' := by
  go_enter Try.func47, Try.ntmps47
  go_wp2
  have hF : (((w.alloc (.cells #[.int .i64 x, .int .i64 y] 63)).alloc (.cells #[.int .i64 x, .int .i64 y] 30)).alloc (.cells #[.int .i64 x, .int .i64 y] 30)).heap[w.heap.size + 1]? = some (.cells #[.int .i64 x, .int .i64 y] 30 (0, 0)) := by
    rw [heap_alloc_old _ _ (by simp)]
    have := heap_alloc_new (w.alloc (.cells #[.int .i64 x, .int .i64 y] 63)) (.cells #[.int .i64 x, .int .i64 y] 30)
    simpa using this
  refine bodyPost_ret (results_cell_row rfl _ _ _ _ _ _ _ rfl hF Try.underlying30 rfl (by kernel_rfl)) rfl ?_
  exact ⟨rfl, ((((Below.refl _ _).alloc (Nat.le_refl _) _).alloc (by simp) _).alloc (by simp; omega) _)⟩
theorem szSpanS_any {A : Option Addr} {n c : Nat} {w : World} {L : Int} (hL : L = 1048576) (hn : n ≤ 9223372036854775807) :
    Calls Try.prog 44 #[.slice A n c, .int .i64 L] w fun e w' => e = .returned (.int .i64 (if n ≤ 1048576 then 1048576 - (n : Int) else -1)) ∧ w = w' := by
  subst hL
  by_cases h : n ≤ 1048576
  · have hB : decide ((1048576 : Int) - (n : Int) < 0) = false := by simp; omega
    rw [if_pos h]
    clear h
    go_enter Try.func44, Try.ntmps44
    go_wp2
    go_ret
    exact ⟨rfl, rfl⟩
  · have hB : decide ((1048576 : Int) - (n : Int) < 0) = true := by simp; omega
    rw [if_neg h]
    clear h
    go_enter Try.func44, Try.ntmps44
    go_wp2
    go_ret
    exact ⟨rfl, rfl⟩
set_option maxHeartbeats 2000000 in
theorem toSpanS_any {A : Option Addr} {n c : Nat} {hs : List Duo} {w : World} (h : HasD w A n hs) (hn : n ≤ 16777216) :
    Calls Try.prog 45 #[.slice A n c] w fun e w' => ∃ A' c', e = .returned (.slice A' n c') ∧ OwnD w' w.heap.size 30 A' n c' hs ∧ Below w.heap.size w w' := by
  obtain ⟨i0, hi, hz0, hz1, hz2⟩ := info_partsD Try.infoSpan15
  have HLN := Lib.hid h.1
  go_enter Try.func45, Try.ntmps45
  go_wp2_with (at_make; refine wpList_make_full _ rfl _ _ 41 rfl w.heap.size 30 i0 (.agg #[.int .i64 0, .int .i64 0]) 2 Try.underlying41 hi hz0 hz1 .i64 .i64 _ _ n rfl rfl (by omega) (by omega) (by rw [hz2]; omega) (by unfold maxLen; omega) (Nat.le_refl _) ?_; intro w1 hown hgrow)
  rw [made_zerosD] at hown
  have O1 : OwnD w1 w.heap.size 30 (some ⟨w.heap.size, 0, none⟩) n n (List.replicate n (0, 0)) := hown
  have B1 : Below w.heap.size w w1 := below_of_grown hgrow (Nat.le_refl _) (fun k hk => by cases hk)
  have s1 : w.heap.size < w1.heap.size := by have := World.ownsRow.lt O1 w.heap.size rfl; omega
  clear hown hgrow
  go_loopw [4] (fun t wr => ∃ k : Nat, k ≤ n ∧ t = .int .i64 (k : Int) ∧ OwnD wr w.heap.size 30 (some ⟨w.heap.size, 0, none⟩) n n (hs.take k ++ List.replicate (n - k) (0, 0)) ∧ Below w.heap.size w wr) (fun t _ => n - (intOf t).toNat)
  case atStart => exact ⟨0, Nat.zero_le _, rfl, by simpa using O1, B1⟩
  case round =>
    obtain ⟨k, hk, rfl, O2, B2⟩ := hrel
    have hge := B2.size
    by_cases hlt : k < n
    · have hltB : decide ((k : Int) < (n : Int)) = true := by simp; omega
      obtain ⟨b, o, x, y, rfl, hbl, hx, d0, d1⟩ := (h.bel B2).at_ hlt
      have HST := Lib.hid (set_take15 hs (0, 0) k n HLN.out hlt (x, y) hx)
      clear hx
      go_wp2_with (fail)
      refine (toSpan_any x y wr).mono ?_
      rintro e w3 ⟨rfl, B3⟩
      have O3 : OwnD w3 w.heap.size 30 (some ⟨w.heap.size, 0, none⟩) n n (hs.take k ++ List.replicate (n - k) (0, 0)) := World.ownsRow.kept O2 (grown_of_below B3) (.inr (by simp [Value.ownBlock]))
      obtain ⟨O4, G4⟩ := O3.put k (x, y)
      rw [HST.out] at O4
      obtain ⟨q, _, c0, c1⟩ := O3.cells hlt
      have f1 : ∀ j, w3.frozen? ⟨w.heap.size, j, none⟩ = false := World.ownsRow.frozenAt O3
      have B4 : Below w.heap.size w _ := (B2.trans (B3.mono hge)).trans (below_of_grown G4 (by have := B3.size; omega) (fun j hj => by injection hj with hj; omega))
      clear O3 G4 B3
      go_wp2
      go_roundw
      case rel => exact ⟨k + 1, by omega, by go_num, O4, B4⟩
      case measure => simp [intOf]; omega
    · have hltB : decide ((k : Int) < (n : Int)) = false := by simp; omega
      obtain rfl : k = n := by omega
      rw [List.take_of_length_le (by rw [HLN.out]; omega), Nat.sub_self, List.replicate_zero, List.append_nil] at O2
      go_wp2
      go_ret
      exact ⟨_, _, rfl, O2, B2⟩
theorem eqSpan_any (x y : Int) (w : World) : Calls Try.prog 40 #[.agg #[.int .i64 x, .int .i64 y], .agg #[.int .i64 x, .int .i64 y]] w fun e w' => e = .returned (.bool true) ∧ Below w.heap.size w w' := by
  go_enter Try.func40, Try.ntmps40
  go_wp2
  go_ret
  exact ⟨rfl, ((Below.refl _ _).alloc (Nat.le_refl _) _).alloc (by simp) _⟩
set_option maxHeartbeats 2000000 in
theorem eqSpanS_same {A A' : Option Addr} {n c n' c' : Nat} {hs : List Duo} {w : World} (h : HasD w A n hs) (h' : HasD w A' n' hs) (hn : n ≤ 16777216) :
    Calls Try.prog 46 #[.slice A n c, .slice A' n' c'] w fun e w' => e = .returned (.bool true) ∧ Below w.heap.size w w' := by
  obtain rfl : n' = n := by have := h.1; have := h'.1; omega
  go_enter Try.func46, Try.ntmps46
  go_wp2
  go_loopw [5] (fun i wr => ∃ k : Nat, k ≤ n' ∧ i = .int .i64 k ∧ Below w.heap.size w wr) (fun i _ => n' - (intOf i).toNat)
  case atStart => exact ⟨0, Nat.zero_le _, rfl, Below.refl _ _⟩
  case round =>
    obtain ⟨k, hk, rfl, B⟩ := hrel
    have hge := B.size
    by_cases hlt : k < n'
    · have hltB : decide ((k : Int) < (n' : Int)) = true := by simp; omega
      obtain ⟨b, o, x, y, rfl, hbl, hx, d0, d1⟩ := (h.bel B).at_ hlt
      obtain ⟨b', o', x', y', rfl, hbl', hx', d0', d1'⟩ := (h'.bel B).at_ hlt
      have he : (x, y) = (x', y') := by rw [hx] at hx'; injection hx'
      injection he with e1 e2
      subst e1 e2
      clear hx hx'
      have HQ : ∀ W : World, Hid (Calls Try.prog 40 #[.agg #[.int .i64 x, .int .i64 y], .agg #[.int .i64 x, .int .i64 y]] W fun e w' => e = .returned (.bool true) ∧ Below W.heap.size W w') := fun W => eqSpan_any x y W
      have HQH := Lib.hid HQ
      clear HQ
      have DB : Below wr.heap.size wr wr.drew := (Below.refl _ _).drew
      go_wp2
      go_region_with (go_at_call 40; refine (HQH.out _).out.mono ?_; rintro e w5 ⟨rfl, B5⟩)
      all_goals
        have B6 := B.trans ((DB.trans B5).mono hge)
        go_wp2
        go_roundw
        case rel => exact ⟨k + 1, by omega, by go_num, B6⟩
        case measure => simp [intOf]; omega
    · have hltB : decide ((k : Int) < (n' : Int)) = false := by simp; omega
      obtain rfl : k = n' := by omega
      go_wp2
      go_ret
      exact ⟨rfl, B⟩
/- '==' of exchanges and of spans that are equal. -/
theorem same_ex (x y z u : Int) (w : World) : (Op.equalIn 10000 26 (.agg #[.int .i64 x, .int .i64 y, .int .i64 z, .int .i64 u]) (.agg #[.int .i64 x, .int .i64 y, .int .i64 z, .int .i64 u])).run Try.prog w = .ok true w := by
  have u3 := Try.underlying3
  have a3 := Try.isAgg3
  have z3 := Try.sizeOf3
  have hS : Try.prog.underlying 26 = some (.struct (Try.prog.fieldsOf 26)) := by kernel_rfl
  have hp : Try.prog.stoodInHeld 26 = false := by kernel_rfl
  rw [show (10000 : Nat) = 9999 + 1 from rfl, run_equalIn_agg w 9999 26 _ _ hS hp]
  simp only [Program.fieldsOf, Try.underlying26]
  go_simp
theorem guard_ex15 : Try.prog.eqGuardType Try.prog.depth 26 = false := by kernel_rfl
theorem same_sp (x y : Int) (w : World) : (Op.equalIn 10000 30 (.agg #[.int .i64 x, .int .i64 y]) (.agg #[.int .i64 x, .int .i64 y])).run Try.prog w = .ok true w := by
  have u3 := Try.underlying3
  have a3 := Try.isAgg3
  have z3 := Try.sizeOf3
  have hS : Try.prog.underlying 30 = some (.struct (Try.prog.fieldsOf 30)) := by kernel_rfl
  have hp : Try.prog.stoodInHeld 30 = false := by kernel_rfl
  rw [show (10000 : Nat) = 9999 + 1 from rfl, run_equalIn_agg w 9999 30 _ _ hS hp]
  simp only [Program.fieldsOf, Try.underlying30]
  go_simp
theorem guard_sp15 : Try.prog.eqGuardType Try.prog.depth 30 = false := by kernel_rfl
end Go.Proofs.Ytmifhkhanjiklaa
