/-
  Chapter 7's program, a slice of unreached costs: what is proved here is what slices.Repeat returns for the one element -1, and that it writes nothing that was there. Condition: one to eight times.
-/
import Derived.Test.YtkmdpmhaljieaaaImp7b
import Derived.Deep.RegionLaw
namespace Go.Proofs.Ytkmdpmhaljieaaa
open Go.RowKit

/-- A slice whose front is copied behind that front: as one step of a region that draws its order. -/
theorem step_copy_self {P : Program} {ops : Array Oper} {o : Oper} {a : Act} {K : Act → World → Prop} {Q : Exit → Act → World → Prop} {E : Prop} (w : World) (hgd : o.guard = none) (d s : Operand) (t : TypeId)
    (ho : o.op = .call { callee := .builtin .copy, args := #[d, s], argTypes := #[t, t] })
    (lo : Nat) (e : TypeId) (i : TypeInfo) (ht : P.underlying t = some (.slice e)) (hi : P.info? e = some i) (hsize : i.size = 1)
    (g n c k m l1 c1 c2 : Nat) (x z : Value) (hd : a.eval d = .slice (some ⟨g, k, none⟩) l1 c1) (hs : a.eval s = .slice (some ⟨g, 0, none⟩) k c2)
    (hown : Own w lo e (some ⟨g, 0, none⟩) n c (List.replicate k x ++ List.replicate (n - k) z)) (hk : k ≤ n) (hl : l1 = n - k) (hm : m = Nat.min k l1) (h1 : x.oneCell' = true)
    (h : ∀ w', Own w' lo e (some ⟨g, 0, none⟩) n c (List.replicate (k + m) x ++ List.replicate (n - (k + m)) z) → Below lo w w' → K (a.put o.dst (goInt m)) w') :
    if Region.wanted o (yielded ops a.tmps) = true then Oper.wp P o a w K Q else E := by
  have hsz : (P.info? e).map (·.size) = some 1 := by rw [hi]; simp [hsize]
  have hmk : m ≤ k := by rw [hm]; exact Nat.min_le_left _ _
  have hml : k + m ≤ n := by have : m ≤ l1 := by rw [hm]; exact Nat.min_le_right _ _
                             omega
  rcases hown.2 with ⟨hv, _⟩ | ⟨g', cap, cur, hv, hb, hg, hnc, hcm, hcs, htake⟩
  · cases hv
  · injection hv with hA _ hcap
    injection hA with hA
    injection hA with hA
    subst hA hcap
    have hcl : cur.toList.length = c := by simpa using hcs
    have hrl : (List.replicate m x).length = m := by simp
    refine step_copy_splice hgd d s t t ho e ht hsz _ _ _ _ _ _ hd hs g k cur.toList e (by simpa using hg) (List.replicate m x) (by rw [hrl, hm]) ?_ (by omega) (fun u hu => by rw [List.eq_of_mem_replicate hu]; exact h1) lo w (Below.refl _ _) hb ?_
    · intro _
      refine ⟨rfl, _, rfl, fun j u hu => ?_⟩
      have hj : j < m := by have := (List.getElem?_eq_some_iff.1 hu).1; omega
      have hu' : u = x := List.eq_of_mem_replicate (List.mem_of_getElem? hu)
      subst hu'
      obtain ⟨b2, o2, hA2, hc2⟩ := hown.has.2 j (by omega)
      injection hA2 with hA2
      injection hA2 with q1 q2
      subst q1 q2
      have hadd : (⟨g, 0, none⟩ : Addr).add j = ⟨g, 0 + j, none⟩ := by unfold Addr.add; split <;> simp_all
      rw [hadd, hc2, List.getElem?_append_left (by simp; omega), List.getElem?_replicate, if_pos (by omega)]
    · intro w' hg' hb'
      rw [hrl]
      have htk : cur.toList.take n = List.replicate k x ++ List.replicate (n - k) z := by simpa using htake
      have e1 : cur.toList.take k = List.replicate k x := by
        have := congrArg (List.take k) htk
        rw [List.take_take, Nat.min_eq_left hk, List.take_append_of_le_length (by simp), List.take_of_length_le (show (List.replicate k x).length ≤ k by simp)] at this
        exact this
      have e2 : (cur.toList.drop (k + m)).take (n - (k + m)) = List.replicate (n - (k + m)) z := by
        have := congrArg (List.drop (k + m)) htk
        rw [List.drop_take, List.drop_append, List.drop_of_length_le (show (List.replicate k x).length ≤ k + m by simp), List.nil_append, List.length_replicate, List.drop_replicate] at this
        rw [this]; congr 1; omega
      refine h w' ⟨by simp; omega, .inr ⟨g, c, _, rfl, hb, hg'.out, hnc, hcm, ?_, ?_⟩⟩ hb'
      · rw [List.size_toArray, length_splice _ _ _ (by rw [hrl]; omega)]; omega
      · simp only [splice, Nat.mul_one]
        rw [e1, ← List.append_assoc, List.replicate_append_replicate, List.take_append, List.take_of_length_le (by simp; omega), List.length_replicate, List.length_replicate, e2]

set_option maxHeartbeats 1000000 in
theorem mul64_1 (w : World) : Calls Try.prog 111 #[.int .u64 1, .int .u64 1] w fun e w' => e = .returned (.tuple #[.int .u64 0, .int .u64 1]) ∧ w = w' := by
  go_enter Try.func111, Try.ntmps111
  go_wp2
  go_ret2
  exact ⟨rfl, rfl⟩
theorem mul_1 (w : World) : Calls Try.prog 94 #[.int .u64 1, .int .u64 1] w fun e w' => e = .returned (.tuple #[.int .u64 0, .int .u64 1]) ∧ w = w' := by
  go_enter Try.func94, Try.ntmps94
  go_wp2_with (go_at_call 111; refine (mul64_1 _).mono ?_; rintro e w' ⟨rfl, rfl⟩)
  go_ret2
  exact ⟨rfl, rfl⟩

set_option maxRecDepth 100000 in
set_option maxHeartbeats 2000000 in
theorem repeat_1 {w : World} {g : Nat} (hg : w.cell? ⟨g, 0, none⟩ = some (.int .i64 (-1))) :
    Calls Try.prog 85 #[.slice (some ⟨g, 0, none⟩) 1 1, .int .i64 1] w fun e w' => ∃ A' c', e = .returned (.slice A' 1 c') ∧ Own w' w.heap.size 3 A' 1 c' (ints .i64 (List.replicate 1 (-1))) ∧ Below w.heap.size w w' := by
  obtain ⟨i0, hi, hz0, hz1, hz2⟩ := info_parts Try.infoInt
  have hH : Has w (some ⟨g, 0, none⟩) 1 [.int .i64 (-1)] := ⟨rfl, fun i hi => ⟨g, 0, rfl, by (have h0 : i = 0 := by omega); subst h0; exact hg⟩⟩
  have hcap : (madeCells (Value.cells (.int .i64 0)) (1 * 1)).toList = List.replicate 1 (.int .i64 0) := by
    rw [Nat.mul_one]; exact toList_madeCells_one _ _
  go_enter Try.func85, Try.ntmps85
  go_wp2_with (first
    | (go_at_call 94; refine (mul_1 _).mono ?_; rintro e w' ⟨rfl, rfl⟩)
    | (at_make; refine wpList_make_full _ rfl _ _ 33 rfl w.heap.size 3 i0 (.int .i64 0) 1 Try.underlying33 hi hz0 hz1 .i64 .i64 _ _ 1 rfl rfl rfl rfl (by rw [hz2]; decide) (by decide) (Nat.le_refl _) ?_; intro w1 hown hgrow
       have O1 : Own w1 w.heap.size 3 (some ⟨w.heap.size, 0, none⟩) 1 1 (List.replicate 1 (.int .i64 0)) := by unfold Own; rw [← hcap]; exact hown
       have B1 : Below w.heap.size w w1 := below_of_grown hgrow (Nat.le_refl _) (fun k hk => by cases hk)
       clear hown hgrow)
    | (refine wpList_copy_part _ rfl (.tmp 31) (.tmp 32) 33 rfl w.heap.size 3 i0 Try.underlying33 hi hz1 _ 1 1 _ rfl O1 _ 1 1 [.int .i64 (-1)] rfl (hH.bel B1) (by simp [Value.oneCell']) 1 (.inr ⟨rfl, by decide⟩) ?_; intro w2 O2 B2))
  have O3 : Own w2 w.heap.size 3 (some ⟨w.heap.size, 0, none⟩) 1 1 (List.replicate 1 (.int .i64 (-1)) ++ List.replicate (1 - 1) (.int .i64 0)) := O2
  have B3 := B1.trans B2
  clear O1 O2 B1 B2 hcap
  go_loopw [8] (fun t wr => ∃ k : Nat, (k = 1) ∧ t = .int .i64 (k : Int) ∧ Own wr w.heap.size 3 (some ⟨w.heap.size, 0, none⟩) 1 1 (List.replicate k (.int .i64 (-1)) ++ List.replicate (1 - k) (.int .i64 0)) ∧ Below w.heap.size w wr) (fun t _ => 1 - (intOf t).toNat)
  case atStart => exact ⟨1, rfl, rfl, O3, B3⟩
  case round =>
    obtain ⟨k, hk, rfl, O, B⟩ := hrel
    subst hk
    go_wp2
    go_ret
    exact ⟨_, _, rfl, O, B⟩
set_option maxHeartbeats 1000000 in
theorem mul64_2 (w : World) : Calls Try.prog 111 #[.int .u64 1, .int .u64 2] w fun e w' => e = .returned (.tuple #[.int .u64 0, .int .u64 2]) ∧ w = w' := by
  go_enter Try.func111, Try.ntmps111
  go_wp2
  go_ret2
  exact ⟨rfl, rfl⟩
theorem mul_2 (w : World) : Calls Try.prog 94 #[.int .u64 1, .int .u64 2] w fun e w' => e = .returned (.tuple #[.int .u64 0, .int .u64 2]) ∧ w = w' := by
  go_enter Try.func94, Try.ntmps94
  go_wp2_with (go_at_call 111; refine (mul64_2 _).mono ?_; rintro e w' ⟨rfl, rfl⟩)
  go_ret2
  exact ⟨rfl, rfl⟩

set_option maxRecDepth 100000 in
set_option maxHeartbeats 2000000 in
theorem repeat_2 {w : World} {g : Nat} (hg : w.cell? ⟨g, 0, none⟩ = some (.int .i64 (-1))) :
    Calls Try.prog 85 #[.slice (some ⟨g, 0, none⟩) 1 1, .int .i64 2] w fun e w' => ∃ A' c', e = .returned (.slice A' 2 c') ∧ Own w' w.heap.size 3 A' 2 c' (ints .i64 (List.replicate 2 (-1))) ∧ Below w.heap.size w w' := by
  obtain ⟨i0, hi, hz0, hz1, hz2⟩ := info_parts Try.infoInt
  have hH : Has w (some ⟨g, 0, none⟩) 1 [.int .i64 (-1)] := ⟨rfl, fun i hi => ⟨g, 0, rfl, by (have h0 : i = 0 := by omega); subst h0; exact hg⟩⟩
  have hcap : (madeCells (Value.cells (.int .i64 0)) (2 * 1)).toList = List.replicate 2 (.int .i64 0) := by
    rw [Nat.mul_one]; exact toList_madeCells_one _ _
  go_enter Try.func85, Try.ntmps85
  go_wp2_with (first
    | (go_at_call 94; refine (mul_2 _).mono ?_; rintro e w' ⟨rfl, rfl⟩)
    | (at_make; refine wpList_make_full _ rfl _ _ 33 rfl w.heap.size 3 i0 (.int .i64 0) 1 Try.underlying33 hi hz0 hz1 .i64 .i64 _ _ 2 rfl rfl rfl rfl (by rw [hz2]; decide) (by decide) (Nat.le_refl _) ?_; intro w1 hown hgrow
       have O1 : Own w1 w.heap.size 3 (some ⟨w.heap.size, 0, none⟩) 2 2 (List.replicate 2 (.int .i64 0)) := by unfold Own; rw [← hcap]; exact hown
       have B1 : Below w.heap.size w w1 := below_of_grown hgrow (Nat.le_refl _) (fun k hk => by cases hk)
       clear hown hgrow)
    | (refine wpList_copy_part _ rfl (.tmp 31) (.tmp 32) 33 rfl w.heap.size 3 i0 Try.underlying33 hi hz1 _ 2 2 _ rfl O1 _ 1 1 [.int .i64 (-1)] rfl (hH.bel B1) (by simp [Value.oneCell']) 1 (.inr ⟨rfl, by decide⟩) ?_; intro w2 O2 B2))
  have O3 : Own w2 w.heap.size 3 (some ⟨w.heap.size, 0, none⟩) 2 2 (List.replicate 1 (.int .i64 (-1)) ++ List.replicate (2 - 1) (.int .i64 0)) := O2
  have B3 := B1.trans B2
  clear O1 O2 B1 B2 hcap
  go_loopw [8] (fun t wr => ∃ k : Nat, (k = 1 ∨ k = 2) ∧ t = .int .i64 (k : Int) ∧ Own wr w.heap.size 3 (some ⟨w.heap.size, 0, none⟩) 2 2 (List.replicate k (.int .i64 (-1)) ++ List.replicate (2 - k) (.int .i64 0)) ∧ Below w.heap.size w wr) (fun t _ => 2 - (intOf t).toNat)
  case atStart => exact ⟨1, .inl rfl, rfl, O3, B3⟩
  case round =>
    obtain ⟨k, hk, rfl, O, B⟩ := hrel
    rcases hk with rfl | rfl
    · have OD : Own wr.drew w.heap.size 3 (some ⟨w.heap.size, 0, none⟩) 2 2 (List.replicate 1 (.int .i64 (-1)) ++ List.replicate (2 - 1) (.int .i64 0)) := O.bel (below_drewN _ 1)
      have hge := B.size
      clear O
      go_wp2
      go_region_law ((with_reducible refine step_copy_self _ rfl (.tmp 41) (.tmp 44) 33 rfl w.heap.size 3 i0 Try.underlying33 hi hz1 w.heap.size 2 2 1 1 1 1 2 (.int .i64 (-1)) (.int .i64 0) ?c1 ?c2 OD ?c3 ?c4 ?c5 ?c6 ?_); (case c1 => kernel_rfl); (case c2 => kernel_rfl); (case c3 => decide); (case c4 => decide); (case c5 => decide); (case c6 => rfl); intro w5 O5 B5)
      go_wp2
      simp only [List.getElem_toArray, List.getElem_cons_succ, List.getElem_cons_zero, Act.put, List.setIfInBounds_toArray, List.set_cons_succ, List.set_cons_zero, show IntKind.i64.wrap 2 = 2 by decide]
      go_roundw
      case rel => exact ⟨2, by decide, rfl, O5, B.trans ((below_drewN _ 1).trans B5)⟩
      case measure => simp [intOf]
    · go_wp2
      go_ret
      exact ⟨_, _, rfl, O, B⟩
set_option maxHeartbeats 1000000 in
theorem mul64_3 (w : World) : Calls Try.prog 111 #[.int .u64 1, .int .u64 3] w fun e w' => e = .returned (.tuple #[.int .u64 0, .int .u64 3]) ∧ w = w' := by
  go_enter Try.func111, Try.ntmps111
  go_wp2
  go_ret2
  exact ⟨rfl, rfl⟩
theorem mul_3 (w : World) : Calls Try.prog 94 #[.int .u64 1, .int .u64 3] w fun e w' => e = .returned (.tuple #[.int .u64 0, .int .u64 3]) ∧ w = w' := by
  go_enter Try.func94, Try.ntmps94
  go_wp2_with (go_at_call 111; refine (mul64_3 _).mono ?_; rintro e w' ⟨rfl, rfl⟩)
  go_ret2
  exact ⟨rfl, rfl⟩

set_option maxRecDepth 100000 in
set_option maxHeartbeats 2000000 in
theorem repeat_3 {w : World} {g : Nat} (hg : w.cell? ⟨g, 0, none⟩ = some (.int .i64 (-1))) :
    Calls Try.prog 85 #[.slice (some ⟨g, 0, none⟩) 1 1, .int .i64 3] w fun e w' => ∃ A' c', e = .returned (.slice A' 3 c') ∧ Own w' w.heap.size 3 A' 3 c' (ints .i64 (List.replicate 3 (-1))) ∧ Below w.heap.size w w' := by
  obtain ⟨i0, hi, hz0, hz1, hz2⟩ := info_parts Try.infoInt
  have hH : Has w (some ⟨g, 0, none⟩) 1 [.int .i64 (-1)] := ⟨rfl, fun i hi => ⟨g, 0, rfl, by (have h0 : i = 0 := by omega); subst h0; exact hg⟩⟩
  have hcap : (madeCells (Value.cells (.int .i64 0)) (3 * 1)).toList = List.replicate 3 (.int .i64 0) := by
    rw [Nat.mul_one]; exact toList_madeCells_one _ _
  go_enter Try.func85, Try.ntmps85
  go_wp2_with (first
    | (go_at_call 94; refine (mul_3 _).mono ?_; rintro e w' ⟨rfl, rfl⟩)
    | (at_make; refine wpList_make_full _ rfl _ _ 33 rfl w.heap.size 3 i0 (.int .i64 0) 1 Try.underlying33 hi hz0 hz1 .i64 .i64 _ _ 3 rfl rfl rfl rfl (by rw [hz2]; decide) (by decide) (Nat.le_refl _) ?_; intro w1 hown hgrow
       have O1 : Own w1 w.heap.size 3 (some ⟨w.heap.size, 0, none⟩) 3 3 (List.replicate 3 (.int .i64 0)) := by unfold Own; rw [← hcap]; exact hown
       have B1 : Below w.heap.size w w1 := below_of_grown hgrow (Nat.le_refl _) (fun k hk => by cases hk)
       clear hown hgrow)
    | (refine wpList_copy_part _ rfl (.tmp 31) (.tmp 32) 33 rfl w.heap.size 3 i0 Try.underlying33 hi hz1 _ 3 3 _ rfl O1 _ 1 1 [.int .i64 (-1)] rfl (hH.bel B1) (by simp [Value.oneCell']) 1 (.inr ⟨rfl, by decide⟩) ?_; intro w2 O2 B2))
  have O3 : Own w2 w.heap.size 3 (some ⟨w.heap.size, 0, none⟩) 3 3 (List.replicate 1 (.int .i64 (-1)) ++ List.replicate (3 - 1) (.int .i64 0)) := O2
  have B3 := B1.trans B2
  clear O1 O2 B1 B2 hcap
  go_loopw [8] (fun t wr => ∃ k : Nat, (k = 1 ∨ k = 2 ∨ k = 3) ∧ t = .int .i64 (k : Int) ∧ Own wr w.heap.size 3 (some ⟨w.heap.size, 0, none⟩) 3 3 (List.replicate k (.int .i64 (-1)) ++ List.replicate (3 - k) (.int .i64 0)) ∧ Below w.heap.size w wr) (fun t _ => 3 - (intOf t).toNat)
  case atStart => exact ⟨1, .inl rfl, rfl, O3, B3⟩
  case round =>
    obtain ⟨k, hk, rfl, O, B⟩ := hrel
    rcases hk with rfl | rfl | rfl
    · have OD : Own wr.drew w.heap.size 3 (some ⟨w.heap.size, 0, none⟩) 3 3 (List.replicate 1 (.int .i64 (-1)) ++ List.replicate (3 - 1) (.int .i64 0)) := O.bel (below_drewN _ 1)
      have hge := B.size
      clear O
      go_wp2
      go_region_law ((with_reducible refine step_copy_self _ rfl (.tmp 41) (.tmp 44) 33 rfl w.heap.size 3 i0 Try.underlying33 hi hz1 w.heap.size 3 3 1 1 2 2 3 (.int .i64 (-1)) (.int .i64 0) ?c1 ?c2 OD ?c3 ?c4 ?c5 ?c6 ?_); (case c1 => kernel_rfl); (case c2 => kernel_rfl); (case c3 => decide); (case c4 => decide); (case c5 => decide); (case c6 => rfl); intro w5 O5 B5)
      go_wp2
      simp only [List.getElem_toArray, List.getElem_cons_succ, List.getElem_cons_zero, Act.put, List.setIfInBounds_toArray, List.set_cons_succ, List.set_cons_zero, show IntKind.i64.wrap 2 = 2 by decide]
      go_roundw
      case rel => exact ⟨2, by decide, rfl, O5, B.trans ((below_drewN _ 1).trans B5)⟩
      case measure => simp [intOf]
    · have OD : Own wr.drew w.heap.size 3 (some ⟨w.heap.size, 0, none⟩) 3 3 (List.replicate 2 (.int .i64 (-1)) ++ List.replicate (3 - 2) (.int .i64 0)) := O.bel (below_drewN _ 1)
      have hge := B.size
      clear O
      go_wp2
      go_region_law ((with_reducible refine step_copy_self _ rfl (.tmp 41) (.tmp 44) 33 rfl w.heap.size 3 i0 Try.underlying33 hi hz1 w.heap.size 3 3 2 1 1 1 3 (.int .i64 (-1)) (.int .i64 0) ?c1 ?c2 OD ?c3 ?c4 ?c5 ?c6 ?_); (case c1 => kernel_rfl); (case c2 => kernel_rfl); (case c3 => decide); (case c4 => decide); (case c5 => decide); (case c6 => rfl); intro w5 O5 B5)
      go_wp2
      simp only [List.getElem_toArray, List.getElem_cons_succ, List.getElem_cons_zero, Act.put, List.setIfInBounds_toArray, List.set_cons_succ, List.set_cons_zero, show IntKind.i64.wrap 3 = 3 by decide]
      go_roundw
      case rel => exact ⟨3, by decide, rfl, O5, B.trans ((below_drewN _ 1).trans B5)⟩
      case measure => simp [intOf]
    · go_wp2
      go_ret
      exact ⟨_, _, rfl, O, B⟩
set_option maxHeartbeats 1000000 in
theorem mul64_4 (w : World) : Calls Try.prog 111 #[.int .u64 1, .int .u64 4] w fun e w' => e = .returned (.tuple #[.int .u64 0, .int .u64 4]) ∧ w = w' := by
  go_enter Try.func111, Try.ntmps111
  go_wp2
  go_ret2
  exact ⟨rfl, rfl⟩
theorem mul_4 (w : World) : Calls Try.prog 94 #[.int .u64 1, .int .u64 4] w fun e w' => e = .returned (.tuple #[.int .u64 0, .int .u64 4]) ∧ w = w' := by
  go_enter Try.func94, Try.ntmps94
  go_wp2_with (go_at_call 111; refine (mul64_4 _).mono ?_; rintro e w' ⟨rfl, rfl⟩)
  go_ret2
  exact ⟨rfl, rfl⟩

set_option maxRecDepth 100000 in
set_option maxHeartbeats 2000000 in
theorem repeat_4 {w : World} {g : Nat} (hg : w.cell? ⟨g, 0, none⟩ = some (.int .i64 (-1))) :
    Calls Try.prog 85 #[.slice (some ⟨g, 0, none⟩) 1 1, .int .i64 4] w fun e w' => ∃ A' c', e = .returned (.slice A' 4 c') ∧ Own w' w.heap.size 3 A' 4 c' (ints .i64 (List.replicate 4 (-1))) ∧ Below w.heap.size w w' := by
  obtain ⟨i0, hi, hz0, hz1, hz2⟩ := info_parts Try.infoInt
  have hH : Has w (some ⟨g, 0, none⟩) 1 [.int .i64 (-1)] := ⟨rfl, fun i hi => ⟨g, 0, rfl, by (have h0 : i = 0 := by omega); subst h0; exact hg⟩⟩
  have hcap : (madeCells (Value.cells (.int .i64 0)) (4 * 1)).toList = List.replicate 4 (.int .i64 0) := by
    rw [Nat.mul_one]; exact toList_madeCells_one _ _
  go_enter Try.func85, Try.ntmps85
  go_wp2_with (first
    | (go_at_call 94; refine (mul_4 _).mono ?_; rintro e w' ⟨rfl, rfl⟩)
    | (at_make; refine wpList_make_full _ rfl _ _ 33 rfl w.heap.size 3 i0 (.int .i64 0) 1 Try.underlying33 hi hz0 hz1 .i64 .i64 _ _ 4 rfl rfl rfl rfl (by rw [hz2]; decide) (by decide) (Nat.le_refl _) ?_; intro w1 hown hgrow
       have O1 : Own w1 w.heap.size 3 (some ⟨w.heap.size, 0, none⟩) 4 4 (List.replicate 4 (.int .i64 0)) := by unfold Own; rw [← hcap]; exact hown
       have B1 : Below w.heap.size w w1 := below_of_grown hgrow (Nat.le_refl _) (fun k hk => by cases hk)
       clear hown hgrow)
    | (refine wpList_copy_part _ rfl (.tmp 31) (.tmp 32) 33 rfl w.heap.size 3 i0 Try.underlying33 hi hz1 _ 4 4 _ rfl O1 _ 1 1 [.int .i64 (-1)] rfl (hH.bel B1) (by simp [Value.oneCell']) 1 (.inr ⟨rfl, by decide⟩) ?_; intro w2 O2 B2))
  have O3 : Own w2 w.heap.size 3 (some ⟨w.heap.size, 0, none⟩) 4 4 (List.replicate 1 (.int .i64 (-1)) ++ List.replicate (4 - 1) (.int .i64 0)) := O2
  have B3 := B1.trans B2
  clear O1 O2 B1 B2 hcap
  go_loopw [8] (fun t wr => ∃ k : Nat, (k = 1 ∨ k = 2 ∨ k = 4) ∧ t = .int .i64 (k : Int) ∧ Own wr w.heap.size 3 (some ⟨w.heap.size, 0, none⟩) 4 4 (List.replicate k (.int .i64 (-1)) ++ List.replicate (4 - k) (.int .i64 0)) ∧ Below w.heap.size w wr) (fun t _ => 4 - (intOf t).toNat)
  case atStart => exact ⟨1, .inl rfl, rfl, O3, B3⟩
  case round =>
    obtain ⟨k, hk, rfl, O, B⟩ := hrel
    rcases hk with rfl | rfl | rfl
    · have OD : Own wr.drew w.heap.size 3 (some ⟨w.heap.size, 0, none⟩) 4 4 (List.replicate 1 (.int .i64 (-1)) ++ List.replicate (4 - 1) (.int .i64 0)) := O.bel (below_drewN _ 1)
      have hge := B.size
      clear O
      go_wp2
      go_region_law ((with_reducible refine step_copy_self _ rfl (.tmp 41) (.tmp 44) 33 rfl w.heap.size 3 i0 Try.underlying33 hi hz1 w.heap.size 4 4 1 1 3 3 4 (.int .i64 (-1)) (.int .i64 0) ?c1 ?c2 OD ?c3 ?c4 ?c5 ?c6 ?_); (case c1 => kernel_rfl); (case c2 => kernel_rfl); (case c3 => decide); (case c4 => decide); (case c5 => decide); (case c6 => rfl); intro w5 O5 B5)
      go_wp2
      simp only [List.getElem_toArray, List.getElem_cons_succ, List.getElem_cons_zero, Act.put, List.setIfInBounds_toArray, List.set_cons_succ, List.set_cons_zero, show IntKind.i64.wrap 2 = 2 by decide]
      go_roundw
      case rel => exact ⟨2, by decide, rfl, O5, B.trans ((below_drewN _ 1).trans B5)⟩
      case measure => simp [intOf]
    · have OD : Own wr.drew w.heap.size 3 (some ⟨w.heap.size, 0, none⟩) 4 4 (List.replicate 2 (.int .i64 (-1)) ++ List.replicate (4 - 2) (.int .i64 0)) := O.bel (below_drewN _ 1)
      have hge := B.size
      clear O
      go_wp2
      go_region_law ((with_reducible refine step_copy_self _ rfl (.tmp 41) (.tmp 44) 33 rfl w.heap.size 3 i0 Try.underlying33 hi hz1 w.heap.size 4 4 2 2 2 2 4 (.int .i64 (-1)) (.int .i64 0) ?c1 ?c2 OD ?c3 ?c4 ?c5 ?c6 ?_); (case c1 => kernel_rfl); (case c2 => kernel_rfl); (case c3 => decide); (case c4 => decide); (case c5 => decide); (case c6 => rfl); intro w5 O5 B5)
      go_wp2
      simp only [List.getElem_toArray, List.getElem_cons_succ, List.getElem_cons_zero, Act.put, List.setIfInBounds_toArray, List.set_cons_succ, List.set_cons_zero, show IntKind.i64.wrap 4 = 4 by decide]
      go_roundw
      case rel => exact ⟨4, by decide, rfl, O5, B.trans ((below_drewN _ 1).trans B5)⟩
      case measure => simp [intOf]
    · go_wp2
      go_ret
      exact ⟨_, _, rfl, O, B⟩
set_option maxHeartbeats 1000000 in
theorem mul64_5 (w : World) : Calls Try.prog 111 #[.int .u64 1, .int .u64 5] w fun e w' => e = .returned (.tuple #[.int .u64 0, .int .u64 5]) ∧ w = w' := by
  go_enter Try.func111, Try.ntmps111
  go_wp2
  go_ret2
  exact ⟨rfl, rfl⟩
theorem mul_5 (w : World) : Calls Try.prog 94 #[.int .u64 1, .int .u64 5] w fun e w' => e = .returned (.tuple #[.int .u64 0, .int .u64 5]) ∧ w = w' := by
  go_enter Try.func94, Try.ntmps94
  go_wp2_with (go_at_call 111; refine (mul64_5 _).mono ?_; rintro e w' ⟨rfl, rfl⟩)
  go_ret2
  exact ⟨rfl, rfl⟩

set_option maxRecDepth 100000 in
set_option maxHeartbeats 2000000 in
theorem repeat_5 {w : World} {g : Nat} (hg : w.cell? ⟨g, 0, none⟩ = some (.int .i64 (-1))) :
    Calls Try.prog 85 #[.slice (some ⟨g, 0, none⟩) 1 1, .int .i64 5] w fun e w' => ∃ A' c', e = .returned (.slice A' 5 c') ∧ Own w' w.heap.size 3 A' 5 c' (ints .i64 (List.replicate 5 (-1))) ∧ Below w.heap.size w w' := by
  obtain ⟨i0, hi, hz0, hz1, hz2⟩ := info_parts Try.infoInt
  have hH : Has w (some ⟨g, 0, none⟩) 1 [.int .i64 (-1)] := ⟨rfl, fun i hi => ⟨g, 0, rfl, by (have h0 : i = 0 := by omega); subst h0; exact hg⟩⟩
  have hcap : (madeCells (Value.cells (.int .i64 0)) (5 * 1)).toList = List.replicate 5 (.int .i64 0) := by
    rw [Nat.mul_one]; exact toList_madeCells_one _ _
  go_enter Try.func85, Try.ntmps85
  go_wp2_with (first
    | (go_at_call 94; refine (mul_5 _).mono ?_; rintro e w' ⟨rfl, rfl⟩)
    | (at_make; refine wpList_make_full _ rfl _ _ 33 rfl w.heap.size 3 i0 (.int .i64 0) 1 Try.underlying33 hi hz0 hz1 .i64 .i64 _ _ 5 rfl rfl rfl rfl (by rw [hz2]; decide) (by decide) (Nat.le_refl _) ?_; intro w1 hown hgrow
       have O1 : Own w1 w.heap.size 3 (some ⟨w.heap.size, 0, none⟩) 5 5 (List.replicate 5 (.int .i64 0)) := by unfold Own; rw [← hcap]; exact hown
       have B1 : Below w.heap.size w w1 := below_of_grown hgrow (Nat.le_refl _) (fun k hk => by cases hk)
       clear hown hgrow)
    | (refine wpList_copy_part _ rfl (.tmp 31) (.tmp 32) 33 rfl w.heap.size 3 i0 Try.underlying33 hi hz1 _ 5 5 _ rfl O1 _ 1 1 [.int .i64 (-1)] rfl (hH.bel B1) (by simp [Value.oneCell']) 1 (.inr ⟨rfl, by decide⟩) ?_; intro w2 O2 B2))
  have O3 : Own w2 w.heap.size 3 (some ⟨w.heap.size, 0, none⟩) 5 5 (List.replicate 1 (.int .i64 (-1)) ++ List.replicate (5 - 1) (.int .i64 0)) := O2
  have B3 := B1.trans B2
  clear O1 O2 B1 B2 hcap
  go_loopw [8] (fun t wr => ∃ k : Nat, (k = 1 ∨ k = 2 ∨ k = 4 ∨ k = 5) ∧ t = .int .i64 (k : Int) ∧ Own wr w.heap.size 3 (some ⟨w.heap.size, 0, none⟩) 5 5 (List.replicate k (.int .i64 (-1)) ++ List.replicate (5 - k) (.int .i64 0)) ∧ Below w.heap.size w wr) (fun t _ => 5 - (intOf t).toNat)
  case atStart => exact ⟨1, .inl rfl, rfl, O3, B3⟩
  case round =>
    obtain ⟨k, hk, rfl, O, B⟩ := hrel
    rcases hk with rfl | rfl | rfl | rfl
    · have OD : Own wr.drew w.heap.size 3 (some ⟨w.heap.size, 0, none⟩) 5 5 (List.replicate 1 (.int .i64 (-1)) ++ List.replicate (5 - 1) (.int .i64 0)) := O.bel (below_drewN _ 1)
      have hge := B.size
      clear O
      go_wp2
      go_region_law ((with_reducible refine step_copy_self _ rfl (.tmp 41) (.tmp 44) 33 rfl w.heap.size 3 i0 Try.underlying33 hi hz1 w.heap.size 5 5 1 1 4 4 5 (.int .i64 (-1)) (.int .i64 0) ?c1 ?c2 OD ?c3 ?c4 ?c5 ?c6 ?_); (case c1 => kernel_rfl); (case c2 => kernel_rfl); (case c3 => decide); (case c4 => decide); (case c5 => decide); (case c6 => rfl); intro w5 O5 B5)
      go_wp2
      simp only [List.getElem_toArray, List.getElem_cons_succ, List.getElem_cons_zero, Act.put, List.setIfInBounds_toArray, List.set_cons_succ, List.set_cons_zero, show IntKind.i64.wrap 2 = 2 by decide]
      go_roundw
      case rel => exact ⟨2, by decide, rfl, O5, B.trans ((below_drewN _ 1).trans B5)⟩
      case measure => simp [intOf]
    · have OD : Own wr.drew w.heap.size 3 (some ⟨w.heap.size, 0, none⟩) 5 5 (List.replicate 2 (.int .i64 (-1)) ++ List.replicate (5 - 2) (.int .i64 0)) := O.bel (below_drewN _ 1)
      have hge := B.size
      clear O
      go_wp2
      go_region_law ((with_reducible refine step_copy_self _ rfl (.tmp 41) (.tmp 44) 33 rfl w.heap.size 3 i0 Try.underlying33 hi hz1 w.heap.size 5 5 2 2 3 3 5 (.int .i64 (-1)) (.int .i64 0) ?c1 ?c2 OD ?c3 ?c4 ?c5 ?c6 ?_); (case c1 => kernel_rfl); (case c2 => kernel_rfl); (case c3 => decide); (case c4 => decide); (case c5 => decide); (case c6 => rfl); intro w5 O5 B5)
      go_wp2
      simp only [List.getElem_toArray, List.getElem_cons_succ, List.getElem_cons_zero, Act.put, List.setIfInBounds_toArray, List.set_cons_succ, List.set_cons_zero, show IntKind.i64.wrap 4 = 4 by decide]
      go_roundw
      case rel => exact ⟨4, by decide, rfl, O5, B.trans ((below_drewN _ 1).trans B5)⟩
      case measure => simp [intOf]
    · have OD : Own wr.drew w.heap.size 3 (some ⟨w.heap.size, 0, none⟩) 5 5 (List.replicate 4 (.int .i64 (-1)) ++ List.replicate (5 - 4) (.int .i64 0)) := O.bel (below_drewN _ 1)
      have hge := B.size
      clear O
      go_wp2
      go_region_law ((with_reducible refine step_copy_self _ rfl (.tmp 41) (.tmp 44) 33 rfl w.heap.size 3 i0 Try.underlying33 hi hz1 w.heap.size 5 5 4 1 1 1 5 (.int .i64 (-1)) (.int .i64 0) ?c1 ?c2 OD ?c3 ?c4 ?c5 ?c6 ?_); (case c1 => kernel_rfl); (case c2 => kernel_rfl); (case c3 => decide); (case c4 => decide); (case c5 => decide); (case c6 => rfl); intro w5 O5 B5)
      go_wp2
      simp only [List.getElem_toArray, List.getElem_cons_succ, List.getElem_cons_zero, Act.put, List.setIfInBounds_toArray, List.set_cons_succ, List.set_cons_zero, show IntKind.i64.wrap 5 = 5 by decide]
      go_roundw
      case rel => exact ⟨5, by decide, rfl, O5, B.trans ((below_drewN _ 1).trans B5)⟩
      case measure => simp [intOf]
    · go_wp2
      go_ret
      exact ⟨_, _, rfl, O, B⟩
set_option maxHeartbeats 1000000 in
theorem mul64_6 (w : World) : Calls Try.prog 111 #[.int .u64 1, .int .u64 6] w fun e w' => e = .returned (.tuple #[.int .u64 0, .int .u64 6]) ∧ w = w' := by
  go_enter Try.func111, Try.ntmps111
  go_wp2
  go_ret2
  exact ⟨rfl, rfl⟩
theorem mul_6 (w : World) : Calls Try.prog 94 #[.int .u64 1, .int .u64 6] w fun e w' => e = .returned (.tuple #[.int .u64 0, .int .u64 6]) ∧ w = w' := by
  go_enter Try.func94, Try.ntmps94
  go_wp2_with (go_at_call 111; refine (mul64_6 _).mono ?_; rintro e w' ⟨rfl, rfl⟩)
  go_ret2
  exact ⟨rfl, rfl⟩

set_option maxRecDepth 100000 in
set_option maxHeartbeats 2000000 in
theorem repeat_6 {w : World} {g : Nat} (hg : w.cell? ⟨g, 0, none⟩ = some (.int .i64 (-1))) :
    Calls Try.prog 85 #[.slice (some ⟨g, 0, none⟩) 1 1, .int .i64 6] w fun e w' => ∃ A' c', e = .returned (.slice A' 6 c') ∧ Own w' w.heap.size 3 A' 6 c' (ints .i64 (List.replicate 6 (-1))) ∧ Below w.heap.size w w' := by
  obtain ⟨i0, hi, hz0, hz1, hz2⟩ := info_parts Try.infoInt
  have hH : Has w (some ⟨g, 0, none⟩) 1 [.int .i64 (-1)] := ⟨rfl, fun i hi => ⟨g, 0, rfl, by (have h0 : i = 0 := by omega); subst h0; exact hg⟩⟩
  have hcap : (madeCells (Value.cells (.int .i64 0)) (6 * 1)).toList = List.replicate 6 (.int .i64 0) := by
    rw [Nat.mul_one]; exact toList_madeCells_one _ _
  go_enter Try.func85, Try.ntmps85
  go_wp2_with (first
    | (go_at_call 94; refine (mul_6 _).mono ?_; rintro e w' ⟨rfl, rfl⟩)
    | (at_make; refine wpList_make_full _ rfl _ _ 33 rfl w.heap.size 3 i0 (.int .i64 0) 1 Try.underlying33 hi hz0 hz1 .i64 .i64 _ _ 6 rfl rfl rfl rfl (by rw [hz2]; decide) (by decide) (Nat.le_refl _) ?_; intro w1 hown hgrow
       have O1 : Own w1 w.heap.size 3 (some ⟨w.heap.size, 0, none⟩) 6 6 (List.replicate 6 (.int .i64 0)) := by unfold Own; rw [← hcap]; exact hown
       have B1 : Below w.heap.size w w1 := below_of_grown hgrow (Nat.le_refl _) (fun k hk => by cases hk)
       clear hown hgrow)
    | (refine wpList_copy_part _ rfl (.tmp 31) (.tmp 32) 33 rfl w.heap.size 3 i0 Try.underlying33 hi hz1 _ 6 6 _ rfl O1 _ 1 1 [.int .i64 (-1)] rfl (hH.bel B1) (by simp [Value.oneCell']) 1 (.inr ⟨rfl, by decide⟩) ?_; intro w2 O2 B2))
  have O3 : Own w2 w.heap.size 3 (some ⟨w.heap.size, 0, none⟩) 6 6 (List.replicate 1 (.int .i64 (-1)) ++ List.replicate (6 - 1) (.int .i64 0)) := O2
  have B3 := B1.trans B2
  clear O1 O2 B1 B2 hcap
  go_loopw [8] (fun t wr => ∃ k : Nat, (k = 1 ∨ k = 2 ∨ k = 4 ∨ k = 6) ∧ t = .int .i64 (k : Int) ∧ Own wr w.heap.size 3 (some ⟨w.heap.size, 0, none⟩) 6 6 (List.replicate k (.int .i64 (-1)) ++ List.replicate (6 - k) (.int .i64 0)) ∧ Below w.heap.size w wr) (fun t _ => 6 - (intOf t).toNat)
  case atStart => exact ⟨1, .inl rfl, rfl, O3, B3⟩
  case round =>
    obtain ⟨k, hk, rfl, O, B⟩ := hrel
    rcases hk with rfl | rfl | rfl | rfl
    · have OD : Own wr.drew w.heap.size 3 (some ⟨w.heap.size, 0, none⟩) 6 6 (List.replicate 1 (.int .i64 (-1)) ++ List.replicate (6 - 1) (.int .i64 0)) := O.bel (below_drewN _ 1)
      have hge := B.size
      clear O
      go_wp2
      go_region_law ((with_reducible refine step_copy_self _ rfl (.tmp 41) (.tmp 44) 33 rfl w.heap.size 3 i0 Try.underlying33 hi hz1 w.heap.size 6 6 1 1 5 5 6 (.int .i64 (-1)) (.int .i64 0) ?c1 ?c2 OD ?c3 ?c4 ?c5 ?c6 ?_); (case c1 => kernel_rfl); (case c2 => kernel_rfl); (case c3 => decide); (case c4 => decide); (case c5 => decide); (case c6 => rfl); intro w5 O5 B5)
      go_wp2
      simp only [List.getElem_toArray, List.getElem_cons_succ, List.getElem_cons_zero, Act.put, List.setIfInBounds_toArray, List.set_cons_succ, List.set_cons_zero, show IntKind.i64.wrap 2 = 2 by decide]
      go_roundw
      case rel => exact ⟨2, by decide, rfl, O5, B.trans ((below_drewN _ 1).trans B5)⟩
      case measure => simp [intOf]
    · have OD : Own wr.drew w.heap.size 3 (some ⟨w.heap.size, 0, none⟩) 6 6 (List.replicate 2 (.int .i64 (-1)) ++ List.replicate (6 - 2) (.int .i64 0)) := O.bel (below_drewN _ 1)
      have hge := B.size
      clear O
      go_wp2
      go_region_law ((with_reducible refine step_copy_self _ rfl (.tmp 41) (.tmp 44) 33 rfl w.heap.size 3 i0 Try.underlying33 hi hz1 w.heap.size 6 6 2 2 4 4 6 (.int .i64 (-1)) (.int .i64 0) ?c1 ?c2 OD ?c3 ?c4 ?c5 ?c6 ?_); (case c1 => kernel_rfl); (case c2 => kernel_rfl); (case c3 => decide); (case c4 => decide); (case c5 => decide); (case c6 => rfl); intro w5 O5 B5)
      go_wp2
      simp only [List.getElem_toArray, List.getElem_cons_succ, List.getElem_cons_zero, Act.put, List.setIfInBounds_toArray, List.set_cons_succ, List.set_cons_zero, show IntKind.i64.wrap 4 = 4 by decide]
      go_roundw
      case rel => exact ⟨4, by decide, rfl, O5, B.trans ((below_drewN _ 1).trans B5)⟩
      case measure => simp [intOf]
    · have OD : Own wr.drew w.heap.size 3 (some ⟨w.heap.size, 0, none⟩) 6 6 (List.replicate 4 (.int .i64 (-1)) ++ List.replicate (6 - 4) (.int .i64 0)) := O.bel (below_drewN _ 1)
      have hge := B.size
      clear O
      go_wp2
      go_region_law ((with_reducible refine step_copy_self _ rfl (.tmp 41) (.tmp 44) 33 rfl w.heap.size 3 i0 Try.underlying33 hi hz1 w.heap.size 6 6 4 2 2 2 6 (.int .i64 (-1)) (.int .i64 0) ?c1 ?c2 OD ?c3 ?c4 ?c5 ?c6 ?_); (case c1 => kernel_rfl); (case c2 => kernel_rfl); (case c3 => decide); (case c4 => decide); (case c5 => decide); (case c6 => rfl); intro w5 O5 B5)
      go_wp2
      simp only [List.getElem_toArray, List.getElem_cons_succ, List.getElem_cons_zero, Act.put, List.setIfInBounds_toArray, List.set_cons_succ, List.set_cons_zero, show IntKind.i64.wrap 6 = 6 by decide]
      go_roundw
      case rel => exact ⟨6, by decide, rfl, O5, B.trans ((below_drewN _ 1).trans B5)⟩
      case measure => simp [intOf]
    · go_wp2
      go_ret
      exact ⟨_, _, rfl, O, B⟩
set_option maxHeartbeats 1000000 in
theorem mul64_7 (w : World) : Calls Try.prog 111 #[.int .u64 1, .int .u64 7] w fun e w' => e = .returned (.tuple #[.int .u64 0, .int .u64 7]) ∧ w = w' := by
  go_enter Try.func111, Try.ntmps111
  go_wp2
  go_ret2
  exact ⟨rfl, rfl⟩
theorem mul_7 (w : World) : Calls Try.prog 94 #[.int .u64 1, .int .u64 7] w fun e w' => e = .returned (.tuple #[.int .u64 0, .int .u64 7]) ∧ w = w' := by
  go_enter Try.func94, Try.ntmps94
  go_wp2_with (go_at_call 111; refine (mul64_7 _).mono ?_; rintro e w' ⟨rfl, rfl⟩)
  go_ret2
  exact ⟨rfl, rfl⟩

set_option maxRecDepth 100000 in
set_option maxHeartbeats 2000000 in
theorem repeat_7 {w : World} {g : Nat} (hg : w.cell? ⟨g, 0, none⟩ = some (.int .i64 (-1))) :
    Calls Try.prog 85 #[.slice (some ⟨g, 0, none⟩) 1 1, .int .i64 7] w fun e w' => ∃ A' c', e = .returned (.slice A' 7 c') ∧ Own w' w.heap.size 3 A' 7 c' (ints .i64 (List.replicate 7 (-1))) ∧ Below w.heap.size w w' := by
  obtain ⟨i0, hi, hz0, hz1, hz2⟩ := info_parts Try.infoInt
  have hH : Has w (some ⟨g, 0, none⟩) 1 [.int .i64 (-1)] := ⟨rfl, fun i hi => ⟨g, 0, rfl, by (have h0 : i = 0 := by omega); subst h0; exact hg⟩⟩
  have hcap : (madeCells (Value.cells (.int .i64 0)) (7 * 1)).toList = List.replicate 7 (.int .i64 0) := by
    rw [Nat.mul_one]; exact toList_madeCells_one _ _
  go_enter Try.func85, Try.ntmps85
  go_wp2_with (first
    | (go_at_call 94; refine (mul_7 _).mono ?_; rintro e w' ⟨rfl, rfl⟩)
    | (at_make; refine wpList_make_full _ rfl _ _ 33 rfl w.heap.size 3 i0 (.int .i64 0) 1 Try.underlying33 hi hz0 hz1 .i64 .i64 _ _ 7 rfl rfl rfl rfl (by rw [hz2]; decide) (by decide) (Nat.le_refl _) ?_; intro w1 hown hgrow
       have O1 : Own w1 w.heap.size 3 (some ⟨w.heap.size, 0, none⟩) 7 7 (List.replicate 7 (.int .i64 0)) := by unfold Own; rw [← hcap]; exact hown
       have B1 : Below w.heap.size w w1 := below_of_grown hgrow (Nat.le_refl _) (fun k hk => by cases hk)
       clear hown hgrow)
    | (refine wpList_copy_part _ rfl (.tmp 31) (.tmp 32) 33 rfl w.heap.size 3 i0 Try.underlying33 hi hz1 _ 7 7 _ rfl O1 _ 1 1 [.int .i64 (-1)] rfl (hH.bel B1) (by simp [Value.oneCell']) 1 (.inr ⟨rfl, by decide⟩) ?_; intro w2 O2 B2))
  have O3 : Own w2 w.heap.size 3 (some ⟨w.heap.size, 0, none⟩) 7 7 (List.replicate 1 (.int .i64 (-1)) ++ List.replicate (7 - 1) (.int .i64 0)) := O2
  have B3 := B1.trans B2
  clear O1 O2 B1 B2 hcap
  go_loopw [8] (fun t wr => ∃ k : Nat, (k = 1 ∨ k = 2 ∨ k = 4 ∨ k = 7) ∧ t = .int .i64 (k : Int) ∧ Own wr w.heap.size 3 (some ⟨w.heap.size, 0, none⟩) 7 7 (List.replicate k (.int .i64 (-1)) ++ List.replicate (7 - k) (.int .i64 0)) ∧ Below w.heap.size w wr) (fun t _ => 7 - (intOf t).toNat)
  case atStart => exact ⟨1, .inl rfl, rfl, O3, B3⟩
  case round =>
    obtain ⟨k, hk, rfl, O, B⟩ := hrel
    rcases hk with rfl | rfl | rfl | rfl
    · have OD : Own wr.drew w.heap.size 3 (some ⟨w.heap.size, 0, none⟩) 7 7 (List.replicate 1 (.int .i64 (-1)) ++ List.replicate (7 - 1) (.int .i64 0)) := O.bel (below_drewN _ 1)
      have hge := B.size
      clear O
      go_wp2
      go_region_law ((with_reducible refine step_copy_self _ rfl (.tmp 41) (.tmp 44) 33 rfl w.heap.size 3 i0 Try.underlying33 hi hz1 w.heap.size 7 7 1 1 6 6 7 (.int .i64 (-1)) (.int .i64 0) ?c1 ?c2 OD ?c3 ?c4 ?c5 ?c6 ?_); (case c1 => kernel_rfl); (case c2 => kernel_rfl); (case c3 => decide); (case c4 => decide); (case c5 => decide); (case c6 => rfl); intro w5 O5 B5)
      go_wp2
      simp only [List.getElem_toArray, List.getElem_cons_succ, List.getElem_cons_zero, Act.put, List.setIfInBounds_toArray, List.set_cons_succ, List.set_cons_zero, show IntKind.i64.wrap 2 = 2 by decide]
      go_roundw
      case rel => exact ⟨2, by decide, rfl, O5, B.trans ((below_drewN _ 1).trans B5)⟩
      case measure => simp [intOf]
    · have OD : Own wr.drew w.heap.size 3 (some ⟨w.heap.size, 0, none⟩) 7 7 (List.replicate 2 (.int .i64 (-1)) ++ List.replicate (7 - 2) (.int .i64 0)) := O.bel (below_drewN _ 1)
      have hge := B.size
      clear O
      go_wp2
      go_region_law ((with_reducible refine step_copy_self _ rfl (.tmp 41) (.tmp 44) 33 rfl w.heap.size 3 i0 Try.underlying33 hi hz1 w.heap.size 7 7 2 2 5 5 7 (.int .i64 (-1)) (.int .i64 0) ?c1 ?c2 OD ?c3 ?c4 ?c5 ?c6 ?_); (case c1 => kernel_rfl); (case c2 => kernel_rfl); (case c3 => decide); (case c4 => decide); (case c5 => decide); (case c6 => rfl); intro w5 O5 B5)
      go_wp2
      simp only [List.getElem_toArray, List.getElem_cons_succ, List.getElem_cons_zero, Act.put, List.setIfInBounds_toArray, List.set_cons_succ, List.set_cons_zero, show IntKind.i64.wrap 4 = 4 by decide]
      go_roundw
      case rel => exact ⟨4, by decide, rfl, O5, B.trans ((below_drewN _ 1).trans B5)⟩
      case measure => simp [intOf]
    · have OD : Own wr.drew w.heap.size 3 (some ⟨w.heap.size, 0, none⟩) 7 7 (List.replicate 4 (.int .i64 (-1)) ++ List.replicate (7 - 4) (.int .i64 0)) := O.bel (below_drewN _ 1)
      have hge := B.size
      clear O
      go_wp2
      go_region_law ((with_reducible refine step_copy_self _ rfl (.tmp 41) (.tmp 44) 33 rfl w.heap.size 3 i0 Try.underlying33 hi hz1 w.heap.size 7 7 4 3 3 3 7 (.int .i64 (-1)) (.int .i64 0) ?c1 ?c2 OD ?c3 ?c4 ?c5 ?c6 ?_); (case c1 => kernel_rfl); (case c2 => kernel_rfl); (case c3 => decide); (case c4 => decide); (case c5 => decide); (case c6 => rfl); intro w5 O5 B5)
      go_wp2
      simp only [List.getElem_toArray, List.getElem_cons_succ, List.getElem_cons_zero, Act.put, List.setIfInBounds_toArray, List.set_cons_succ, List.set_cons_zero, show IntKind.i64.wrap 7 = 7 by decide]
      go_roundw
      case rel => exact ⟨7, by decide, rfl, O5, B.trans ((below_drewN _ 1).trans B5)⟩
      case measure => simp [intOf]
    · go_wp2
      go_ret
      exact ⟨_, _, rfl, O, B⟩
set_option maxHeartbeats 1000000 in
theorem mul64_8 (w : World) : Calls Try.prog 111 #[.int .u64 1, .int .u64 8] w fun e w' => e = .returned (.tuple #[.int .u64 0, .int .u64 8]) ∧ w = w' := by
  go_enter Try.func111, Try.ntmps111
  go_wp2
  go_ret2
  exact ⟨rfl, rfl⟩
theorem mul_8 (w : World) : Calls Try.prog 94 #[.int .u64 1, .int .u64 8] w fun e w' => e = .returned (.tuple #[.int .u64 0, .int .u64 8]) ∧ w = w' := by
  go_enter Try.func94, Try.ntmps94
  go_wp2_with (go_at_call 111; refine (mul64_8 _).mono ?_; rintro e w' ⟨rfl, rfl⟩)
  go_ret2
  exact ⟨rfl, rfl⟩

set_option maxRecDepth 100000 in
set_option maxHeartbeats 2000000 in
theorem repeat_8 {w : World} {g : Nat} (hg : w.cell? ⟨g, 0, none⟩ = some (.int .i64 (-1))) :
    Calls Try.prog 85 #[.slice (some ⟨g, 0, none⟩) 1 1, .int .i64 8] w fun e w' => ∃ A' c', e = .returned (.slice A' 8 c') ∧ Own w' w.heap.size 3 A' 8 c' (ints .i64 (List.replicate 8 (-1))) ∧ Below w.heap.size w w' := by
  obtain ⟨i0, hi, hz0, hz1, hz2⟩ := info_parts Try.infoInt
  have hH : Has w (some ⟨g, 0, none⟩) 1 [.int .i64 (-1)] := ⟨rfl, fun i hi => ⟨g, 0, rfl, by (have h0 : i = 0 := by omega); subst h0; exact hg⟩⟩
  have hcap : (madeCells (Value.cells (.int .i64 0)) (8 * 1)).toList = List.replicate 8 (.int .i64 0) := by
    rw [Nat.mul_one]; exact toList_madeCells_one _ _
  go_enter Try.func85, Try.ntmps85
  go_wp2_with (first
    | (go_at_call 94; refine (mul_8 _).mono ?_; rintro e w' ⟨rfl, rfl⟩)
    | (at_make; refine wpList_make_full _ rfl _ _ 33 rfl w.heap.size 3 i0 (.int .i64 0) 1 Try.underlying33 hi hz0 hz1 .i64 .i64 _ _ 8 rfl rfl rfl rfl (by rw [hz2]; decide) (by decide) (Nat.le_refl _) ?_; intro w1 hown hgrow
       have O1 : Own w1 w.heap.size 3 (some ⟨w.heap.size, 0, none⟩) 8 8 (List.replicate 8 (.int .i64 0)) := by unfold Own; rw [← hcap]; exact hown
       have B1 : Below w.heap.size w w1 := below_of_grown hgrow (Nat.le_refl _) (fun k hk => by cases hk)
       clear hown hgrow)
    | (refine wpList_copy_part _ rfl (.tmp 31) (.tmp 32) 33 rfl w.heap.size 3 i0 Try.underlying33 hi hz1 _ 8 8 _ rfl O1 _ 1 1 [.int .i64 (-1)] rfl (hH.bel B1) (by simp [Value.oneCell']) 1 (.inr ⟨rfl, by decide⟩) ?_; intro w2 O2 B2))
  have O3 : Own w2 w.heap.size 3 (some ⟨w.heap.size, 0, none⟩) 8 8 (List.replicate 1 (.int .i64 (-1)) ++ List.replicate (8 - 1) (.int .i64 0)) := O2
  have B3 := B1.trans B2
  clear O1 O2 B1 B2 hcap
  go_loopw [8] (fun t wr => ∃ k : Nat, (k = 1 ∨ k = 2 ∨ k = 4 ∨ k = 8) ∧ t = .int .i64 (k : Int) ∧ Own wr w.heap.size 3 (some ⟨w.heap.size, 0, none⟩) 8 8 (List.replicate k (.int .i64 (-1)) ++ List.replicate (8 - k) (.int .i64 0)) ∧ Below w.heap.size w wr) (fun t _ => 8 - (intOf t).toNat)
  case atStart => exact ⟨1, .inl rfl, rfl, O3, B3⟩
  case round =>
    obtain ⟨k, hk, rfl, O, B⟩ := hrel
    rcases hk with rfl | rfl | rfl | rfl
    · have OD : Own wr.drew w.heap.size 3 (some ⟨w.heap.size, 0, none⟩) 8 8 (List.replicate 1 (.int .i64 (-1)) ++ List.replicate (8 - 1) (.int .i64 0)) := O.bel (below_drewN _ 1)
      have hge := B.size
      clear O
      go_wp2
      go_region_law ((with_reducible refine step_copy_self _ rfl (.tmp 41) (.tmp 44) 33 rfl w.heap.size 3 i0 Try.underlying33 hi hz1 w.heap.size 8 8 1 1 7 7 8 (.int .i64 (-1)) (.int .i64 0) ?c1 ?c2 OD ?c3 ?c4 ?c5 ?c6 ?_); (case c1 => kernel_rfl); (case c2 => kernel_rfl); (case c3 => decide); (case c4 => decide); (case c5 => decide); (case c6 => rfl); intro w5 O5 B5)
      go_wp2
      simp only [List.getElem_toArray, List.getElem_cons_succ, List.getElem_cons_zero, Act.put, List.setIfInBounds_toArray, List.set_cons_succ, List.set_cons_zero, show IntKind.i64.wrap 2 = 2 by decide]
      go_roundw
      case rel => exact ⟨2, by decide, rfl, O5, B.trans ((below_drewN _ 1).trans B5)⟩
      case measure => simp [intOf]
    · have OD : Own wr.drew w.heap.size 3 (some ⟨w.heap.size, 0, none⟩) 8 8 (List.replicate 2 (.int .i64 (-1)) ++ List.replicate (8 - 2) (.int .i64 0)) := O.bel (below_drewN _ 1)
      have hge := B.size
      clear O
      go_wp2
      go_region_law ((with_reducible refine step_copy_self _ rfl (.tmp 41) (.tmp 44) 33 rfl w.heap.size 3 i0 Try.underlying33 hi hz1 w.heap.size 8 8 2 2 6 6 8 (.int .i64 (-1)) (.int .i64 0) ?c1 ?c2 OD ?c3 ?c4 ?c5 ?c6 ?_); (case c1 => kernel_rfl); (case c2 => kernel_rfl); (case c3 => decide); (case c4 => decide); (case c5 => decide); (case c6 => rfl); intro w5 O5 B5)
      go_wp2
      simp only [List.getElem_toArray, List.getElem_cons_succ, List.getElem_cons_zero, Act.put, List.setIfInBounds_toArray, List.set_cons_succ, List.set_cons_zero, show IntKind.i64.wrap 4 = 4 by decide]
      go_roundw
      case rel => exact ⟨4, by decide, rfl, O5, B.trans ((below_drewN _ 1).trans B5)⟩
      case measure => simp [intOf]
    · have OD : Own wr.drew w.heap.size 3 (some ⟨w.heap.size, 0, none⟩) 8 8 (List.replicate 4 (.int .i64 (-1)) ++ List.replicate (8 - 4) (.int .i64 0)) := O.bel (below_drewN _ 1)
      have hge := B.size
      clear O
      go_wp2
      go_region_law ((with_reducible refine step_copy_self _ rfl (.tmp 41) (.tmp 44) 33 rfl w.heap.size 3 i0 Try.underlying33 hi hz1 w.heap.size 8 8 4 4 4 4 8 (.int .i64 (-1)) (.int .i64 0) ?c1 ?c2 OD ?c3 ?c4 ?c5 ?c6 ?_); (case c1 => kernel_rfl); (case c2 => kernel_rfl); (case c3 => decide); (case c4 => decide); (case c5 => decide); (case c6 => rfl); intro w5 O5 B5)
      go_wp2
      simp only [List.getElem_toArray, List.getElem_cons_succ, List.getElem_cons_zero, Act.put, List.setIfInBounds_toArray, List.set_cons_succ, List.set_cons_zero, show IntKind.i64.wrap 8 = 8 by decide]
      go_roundw
      case rel => exact ⟨8, by decide, rfl, O5, B.trans ((below_drewN _ 1).trans B5)⟩
      case measure => simp [intOf]
    · go_wp2
      go_ret
      exact ⟨_, _, rfl, O, B⟩
theorem repeat_any {w : World} {g n : Nat} (hg : w.cell? ⟨g, 0, none⟩ = some (.int .i64 (-1))) (h1 : 1 ≤ n) (h8 : n ≤ 8) :
    Calls Try.prog 85 #[.slice (some ⟨g, 0, none⟩) 1 1, .int .i64 (n : Int)] w fun e w' => ∃ A' c', e = .returned (.slice A' n c') ∧ Own w' w.heap.size 3 A' n c' (ints .i64 (List.replicate n (-1))) ∧ Below w.heap.size w w' := by
  have h : n = 1 ∨ n = 2 ∨ n = 3 ∨ n = 4 ∨ n = 5 ∨ n = 6 ∨ n = 7 ∨ n = 8 := by omega
  rcases h with rfl | rfl | rfl | rfl | rfl | rfl | rfl | rfl
  · exact repeat_1 hg
  · exact repeat_2 hg
  · exact repeat_3 hg
  · exact repeat_4 hg
  · exact repeat_5 hg
  · exact repeat_6 hg
  · exact repeat_7 hg
  · exact repeat_8 hg
end Go.Proofs.Ytkmdpmhaljieaaa
