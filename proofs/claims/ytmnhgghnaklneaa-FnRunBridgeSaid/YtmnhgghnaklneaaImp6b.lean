/-
  Chapter 6's program, a fresh table: what is proved here is that it is fifteen times -1, in memory of its own. No condition.
-/
import Derived.Test.YtmnhgghnaklneaaImp6a
import Derived.Deep.RegionLaw
namespace Go.Proofs.Ytmnhgghnaklneaa
open Go.RowKit

/-- A slice whose front is copied behind that front: as one step of a region that draws its order. -/
theorem step_copy_self {P : Program} {ops : Array Oper} {o : Oper} {a : Act} {K : Act → World → Prop} {Q : Exit → Act → World → Prop} {E : Prop} (w : World) (hgd : o.guard = none) (d s : Operand) (t : TypeId)
    (ho : o.op = .call { callee := .builtin .copy, args := #[d, s], argTypes := #[t, t] })
    (lo : Nat) (e : TypeId) (i : TypeInfo) (ht : P.underlying t = some (.slice e)) (hi : P.info? e = some i) (hsize : i.size = 1)
    (g n c k m l1 c1 c2 : Nat) (x z : Value) (hd : a.eval d = .slice (some ⟨g, k, none⟩) l1 c1) (hs : a.eval s = .slice (some ⟨g, 0, none⟩) k c2)
    (hown : Own w lo e (some ⟨g, 0, none⟩) n c (List.replicate k x ++ List.replicate (n - k) z)) (hk : k ≤ n) (hl : l1 = n - k) (hm : m = Nat.min k l1) (h1 : x.oneCell' = true)
    (h : ∀ w', Own w' lo e (some ⟨g, 0, none⟩) n c (List.replicate (k + m) x ++ List.replicate (n - (k + m)) z) → Below lo w w' → K (a.put o.dst (goInt m)) w') :
    if Region.wanted o (yielded ops a.tmps) = true then Oper.wp P o a w K Q else E := by
  have hsz : (P.info? e).map (·.size) = some 1 := by rw [hi]; simp [hsize]
  have hmk : m ≤ k := by rw [hm]; exact Nat.min_le_left _ _
  have hml : k + m ≤ n := by have : m ≤ l1 := by rw [hm]; exact Nat.min_le_right _ _
                             omega
  rcases hown.2 with ⟨hv, _⟩ | ⟨g', cap, cur, hv, hb, hg, hnc, hcm, hcs, htake⟩
  · cases hv
  · injection hv with hA _ hcap
    injection hA with hA
    injection hA with hA
    subst hA hcap
    have hcl : cur.toList.length = c := by simpa using hcs
    have hrl : (List.replicate m x).length = m := by simp
    refine step_copy_splice hgd d s t t ho e ht hsz _ _ _ _ _ _ hd hs g k cur.toList e (by simpa using hg) (List.replicate m x) (by rw [hrl, hm]) ?_ (by omega) (fun u hu => by rw [List.eq_of_mem_replicate hu]; exact h1) lo w (Below.refl _ _) hb ?_
    · intro _
      refine ⟨rfl, _, rfl, fun j u hu => ?_⟩
      have hj : j < m := by have := (List.getElem?_eq_some_iff.1 hu).1; omega
      have hu' : u = x := List.eq_of_mem_replicate (List.mem_of_getElem? hu)
      subst hu'
      obtain ⟨b2, o2, hA2, hc2⟩ := hown.has.2 j (by omega)
      injection hA2 with hA2
      injection hA2 with q1 q2
      subst q1 q2
      have hadd : (⟨g, 0, none⟩ : Addr).add j = ⟨g, 0 + j, none⟩ := by unfold Addr.add; split <;> simp_all
      rw [hadd, hc2, List.getElem?_append_left (by simp; omega), List.getElem?_replicate, if_pos (by omega)]
    · intro w' hg' hb'
      rw [hrl]
      have htk : cur.toList.take n = List.replicate k x ++ List.replicate (n - k) z := by simpa using htake
      have e1 : cur.toList.take k = List.replicate k x := by
        have := congrArg (List.take k) htk
        rw [List.take_take, Nat.min_eq_left hk, List.take_append_of_le_length (by simp), List.take_of_length_le (show (List.replicate k x).length ≤ k by simp)] at this
        exact this
      have e2 : (cur.toList.drop (k + m)).take (n - (k + m)) = List.replicate (n - (k + m)) z := by
        have := congrArg (List.drop (k + m)) htk
        rw [List.drop_take, List.drop_append, List.drop_of_length_le (show (List.replicate k x).length ≤ k + m by simp), List.nil_append, List.length_replicate, List.drop_replicate] at this
        rw [this]; congr 1; omega
      refine h w' ⟨by simp; omega, .inr ⟨g, c, _, rfl, hb, hg'.out, hnc, hcm, ?_, ?_⟩⟩ hb'
      · rw [List.size_toArray, length_splice _ _ _ (by rw [hrl]; omega)]; omega
      · simp only [splice, Nat.mul_one]
        rw [e1, ← List.append_assoc, List.replicate_append_replicate, List.take_append, List.take_of_length_le (by simp; omega), List.length_replicate, List.length_replicate, e2]

set_option maxHeartbeats 1000000 in
theorem mul_fifteen (w : World) : Calls Try.prog 78 #[.int .u64 1, .int .u64 15] w fun e w' => e = .returned (.tuple #[.int .u64 0, .int .u64 15]) ∧ w = w' := by
  go_enter Try.func78, Try.ntmps78
  go_wp2
  go_ret2
  exact ⟨rfl, rfl⟩
theorem mul15 (w : World) : Calls Try.prog 74 #[.int .u64 1, .int .u64 15] w fun e w' => e = .returned (.tuple #[.int .u64 0, .int .u64 15]) ∧ w = w' := by
  go_enter Try.func74, Try.ntmps74
  go_wp2_with (go_at_call 78; refine (mul_fifteen _).mono ?_; rintro e w' ⟨rfl, rfl⟩)
  go_ret2
  exact ⟨rfl, rfl⟩

set_option maxRecDepth 100000 in
set_option maxHeartbeats 600000 in
theorem repeat15 {w : World} {g : Nat} (hg : w.cell? ⟨g, 0, none⟩ = some (.int .i64 (-1))) :
    Calls Try.prog 67 #[.slice (some ⟨g, 0, none⟩) 1 1, .int .i64 15] w fun e w' => ∃ A' c', e = .returned (.slice A' 15 c') ∧ Own w' w.heap.size 3 A' 15 c' (ints .i64 freshL) ∧ Below w.heap.size w w' := by
  obtain ⟨i0, hi, hz0, hz1, hz2⟩ := info_parts Try.infoInt
  have hH : Has w (some ⟨g, 0, none⟩) 1 [.int .i64 (-1)] := ⟨rfl, fun i hi => ⟨g, 0, rfl, by (have h0 : i = 0 := by omega); subst h0; exact hg⟩⟩
  have hcap : (madeCells (Value.cells (.int .i64 0)) (15 * 1)).toList = List.replicate 15 (.int .i64 0) := by
    rw [Nat.mul_one]; exact toList_madeCells_one _ _
  go_enter Try.func67, Try.ntmps67
  go_wp2_with (first
    | (go_at_call 74; refine (mul15 _).mono ?_; rintro e w' ⟨rfl, rfl⟩)
    | (at_make; refine wpList_make_full _ rfl _ _ 23 rfl w.heap.size 3 i0 (.int .i64 0) 1 Try.underlying23 hi hz0 hz1 .i64 .i64 _ _ 15 rfl rfl rfl rfl (by rw [hz2]; decide) (by decide) (Nat.le_refl _) ?_; intro w1 hown hgrow
       have O1 : Own w1 w.heap.size 3 (some ⟨w.heap.size, 0, none⟩) 15 15 (List.replicate 15 (.int .i64 0)) := by unfold Own; rw [← hcap]; exact hown
       have B1 : Below w.heap.size w w1 := below_of_grown hgrow (Nat.le_refl _) (fun k hk => by cases hk)
       clear hown hgrow)
    | (refine wpList_copy_part _ rfl (.tmp 31) (.tmp 32) 23 rfl w.heap.size 3 i0 Try.underlying23 hi hz1 _ 15 15 _ rfl O1 _ 1 1 [.int .i64 (-1)] rfl (hH.bel B1) (by simp [Value.oneCell']) 1 (.inr ⟨rfl, by decide⟩) ?_; intro w2 O2 B2))
  have O3 : Own w2 w.heap.size 3 (some ⟨w.heap.size, 0, none⟩) 15 15 (List.replicate 1 (.int .i64 (-1)) ++ List.replicate (15 - 1) (.int .i64 0)) := O2
  have B3 := B1.trans B2
  clear O1 O2 B1 B2 hcap
  go_loopw [8] (fun t wr => ∃ k : Nat, (k = 1 ∨ k = 2 ∨ k = 4 ∨ k = 8 ∨ k = 15) ∧ t = .int .i64 (k : Int) ∧ Own wr w.heap.size 3 (some ⟨w.heap.size, 0, none⟩) 15 15 (List.replicate k (.int .i64 (-1)) ++ List.replicate (15 - k) (.int .i64 0)) ∧ Below w.heap.size w wr) (fun t _ => 15 - (intOf t).toNat)
  case atStart => exact ⟨1, .inl rfl, rfl, O3, B3⟩
  case round =>
    obtain ⟨k, hk, rfl, O, B⟩ := hrel
    rcases hk with rfl | rfl | rfl | rfl | rfl
    · have OD : Own wr.drew w.heap.size 3 (some ⟨w.heap.size, 0, none⟩) 15 15 (List.replicate 1 (.int .i64 (-1)) ++ List.replicate (15 - 1) (.int .i64 0)) := O.bel (below_drewN _ 1)
      have hge := B.size
      clear O
      go_wp2
      go_region_law ((with_reducible refine step_copy_self _ rfl (.tmp 41) (.tmp 44) 23 rfl w.heap.size 3 i0 Try.underlying23 hi hz1 w.heap.size 15 15 1 1 14 14 15 (.int .i64 (-1)) (.int .i64 0) ?c1 ?c2 OD ?c3 ?c4 ?c5 ?c6 ?_); (case c1 => kernel_rfl); (case c2 => kernel_rfl); (case c3 => decide); (case c4 => decide); (case c5 => decide); (case c6 => rfl); intro w5 O5 B5)
      go_wp2
      simp only [List.getElem_toArray, List.getElem_cons_succ, List.getElem_cons_zero, Act.put, List.setIfInBounds_toArray, List.set_cons_succ, List.set_cons_zero, show IntKind.i64.wrap 2 = 2 by decide]
      go_roundw
      case rel => exact ⟨2, by decide, rfl, O5, B.trans ((below_drewN _ 1).trans B5)⟩
      case measure => simp [intOf]
    · have OD : Own wr.drew w.heap.size 3 (some ⟨w.heap.size, 0, none⟩) 15 15 (List.replicate 2 (.int .i64 (-1)) ++ List.replicate (15 - 2) (.int .i64 0)) := O.bel (below_drewN _ 1)
      have hge := B.size
      clear O
      go_wp2
      go_region_law ((with_reducible refine step_copy_self _ rfl (.tmp 41) (.tmp 44) 23 rfl w.heap.size 3 i0 Try.underlying23 hi hz1 w.heap.size 15 15 2 2 13 13 15 (.int .i64 (-1)) (.int .i64 0) ?c1 ?c2 OD ?c3 ?c4 ?c5 ?c6 ?_); (case c1 => kernel_rfl); (case c2 => kernel_rfl); (case c3 => decide); (case c4 => decide); (case c5 => decide); (case c6 => rfl); intro w5 O5 B5)
      go_wp2
      simp only [List.getElem_toArray, List.getElem_cons_succ, List.getElem_cons_zero, Act.put, List.setIfInBounds_toArray, List.set_cons_succ, List.set_cons_zero, show IntKind.i64.wrap 4 = 4 by decide]
      go_roundw
      case rel => exact ⟨4, by decide, rfl, O5, B.trans ((below_drewN _ 1).trans B5)⟩
      case measure => simp [intOf]
    · have OD : Own wr.drew w.heap.size 3 (some ⟨w.heap.size, 0, none⟩) 15 15 (List.replicate 4 (.int .i64 (-1)) ++ List.replicate (15 - 4) (.int .i64 0)) := O.bel (below_drewN _ 1)
      have hge := B.size
      clear O
      go_wp2
      go_region_law ((with_reducible refine step_copy_self _ rfl (.tmp 41) (.tmp 44) 23 rfl w.heap.size 3 i0 Try.underlying23 hi hz1 w.heap.size 15 15 4 4 11 11 15 (.int .i64 (-1)) (.int .i64 0) ?c1 ?c2 OD ?c3 ?c4 ?c5 ?c6 ?_); (case c1 => kernel_rfl); (case c2 => kernel_rfl); (case c3 => decide); (case c4 => decide); (case c5 => decide); (case c6 => rfl); intro w5 O5 B5)
      go_wp2
      simp only [List.getElem_toArray, List.getElem_cons_succ, List.getElem_cons_zero, Act.put, List.setIfInBounds_toArray, List.set_cons_succ, List.set_cons_zero, show IntKind.i64.wrap 8 = 8 by decide]
      go_roundw
      case rel => exact ⟨8, by decide, rfl, O5, B.trans ((below_drewN _ 1).trans B5)⟩
      case measure => simp [intOf]
    · have OD : Own wr.drew w.heap.size 3 (some ⟨w.heap.size, 0, none⟩) 15 15 (List.replicate 8 (.int .i64 (-1)) ++ List.replicate (15 - 8) (.int .i64 0)) := O.bel (below_drewN _ 1)
      have hge := B.size
      clear O
      go_wp2
      go_region_law ((with_reducible refine step_copy_self _ rfl (.tmp 41) (.tmp 44) 23 rfl w.heap.size 3 i0 Try.underlying23 hi hz1 w.heap.size 15 15 8 7 7 7 15 (.int .i64 (-1)) (.int .i64 0) ?c1 ?c2 OD ?c3 ?c4 ?c5 ?c6 ?_); (case c1 => kernel_rfl); (case c2 => kernel_rfl); (case c3 => decide); (case c4 => decide); (case c5 => decide); (case c6 => rfl); intro w5 O5 B5)
      go_wp2
      simp only [List.getElem_toArray, List.getElem_cons_succ, List.getElem_cons_zero, Act.put, List.setIfInBounds_toArray, List.set_cons_succ, List.set_cons_zero, show IntKind.i64.wrap 15 = 15 by decide]
      go_roundw
      case rel => exact ⟨15, by decide, rfl, O5, B.trans ((below_drewN _ 1).trans B5)⟩
      case measure => simp [intOf]
    · go_wp2
      go_ret
      exact ⟨_, _, rfl, O, B⟩
theorem implFreshTable_w (w : World) :
    Calls Try.prog 35 #[] w fun e w' => ∃ A' c', e = .returned (.slice A' 15 c') ∧ Own w' w.heap.size 3 A' 15 c' (ints .i64 freshL) ∧ Below w.heap.size w w' := by
  have hc : (w.alloc (.cells #[.int .i64 (-1)] 3)).cell? ⟨w.heap.size, 0, none⟩ = some (.int .i64 (-1)) := (cell_of_row (w.alloc (.cells #[.int .i64 (-1)] 3)) w.heap.size 0 _ 3 (0, 0) (heap_alloc_new w _)).trans rfl
  have B0 := Lib.hid (show Below w.heap.size w (w.alloc (.cells #[.int .i64 (-1)] 3)) from (Below.refl _ _).alloc (Nat.le_refl _) _)
  have C := Lib.hid (repeat15 hc)
  clear hc
  go_enter Try.func35, Try.ntmps35
  go_wp2_with (go_at_call 67; refine C.out.mono ?_; rintro e w' ⟨A', c', rfl, O, B⟩)
  go_ret
  have s0 := B0.out.size
  exact ⟨_, _, rfl, O.mono s0, B0.out.trans (B.mono s0)⟩
theorem implFreshTable_any {w : World} :
    Calls Try.prog 35 #[] w fun e w' => ∃ A' n' c', e = .returned (.slice A' n' c') ∧ Own w' w.heap.size 3 A' n' c' (ints .i64 freshL) ∧ Below w.heap.size w w' :=
  (implFreshTable_w w).mono fun _ _ ⟨A', c', h1, h2, h3⟩ => ⟨A', 15, c', h1, h2, h3⟩
end Go.Proofs.Ytmnhgghnaklneaa
