/-
  The library's slices.Repeat of one number: what is proved here is that it makes a list of its own that holds the number so often. Condition: at most 65536 times.
-/
import Derived.Test.YtpciaokafokfmaaTalkR
import Derived.BigRegion
import Derived.BigQuiet
import Derived.Laws.CopyOwn
namespace Go.Proofs.Ytpciaokafokfmaa
open Go.RowKit

theorem and_low32 (k : Nat) (hk : k ≤ 65536) : bits .and .u64 (k : Int) 4294967295 = (k : Int) := by
  have h2 : bits .and .u64 (k : Int) 4294967295 = IntKind.u64.wrap ((BitVec.ofInt 64 (k : Int) &&& BitVec.ofInt 64 ((4294967295 : Nat) : Int)).toNat : Int) := rfl
  have h3 : ∀ n : Nat, n < 18446744073709551616 → (BitVec.ofInt 64 (n : Int)).toNat = n := fun n hn => by
    rw [BitVec.ofInt_natCast, BitVec.toNat_ofNat]; exact Nat.mod_eq_of_lt (by omega)
  rw [h2, BitVec.toNat_and, h3 k (by omega), h3 4294967295 (by omega), show k &&& 4294967295 = k % 4294967296 from Nat.and_two_pow_sub_one_eq_mod k 32]
  simp [IntKind.wrap, IntKind.bits, IntKind.signed]
  omega
theorem u64_in (k : Nat) (hk : k ≤ 65536) : IntKind.u64.wrap (k : Int) = (k : Int) := by
  simp [IntKind.wrap, IntKind.bits, IntKind.signed]
  omega
set_option maxRecDepth 100000 in
theorem mul64_one (k : Nat) (hk : k ≤ 65536) (w : World) : Calls Try.prog 73 #[.int .u64 1, .int .u64 (k : Int)] w fun e w' => e = .returned (.tuple #[.int .u64 0, .int .u64 (k : Int)]) ∧ w = w' := by
  have a1 : bits .and .u64 1 4294967295 = 1 := by decide
  have a3 : bits .and .u64 0 4294967295 = 0 := by decide
  have a2 := and_low32 k hk
  have u1 := u64_in k hk
  have d1 : (k : Int) / 4294967296 = 0 := by omega
  have d2 : (k : Int) / 4294967296 / 4294967296 = 0 := by omega
  clear hk
  go_enter Try.func73, Try.ntmps73
  go_wp2
  go_ret2
  exact ⟨rfl, rfl⟩
theorem mul_one (k : Nat) (hk : k ≤ 65536) (w : World) : Calls Try.prog 71 #[.int .u64 1, .int .u64 (k : Int)] w fun e w' => e = .returned (.tuple #[.int .u64 0, .int .u64 (k : Int)]) ∧ w = w' := by
  go_enter Try.func71, Try.ntmps71
  go_wp2_with (fail)
  refine (mul64_one k hk w).mono ?_
  rintro e w' ⟨rfl, rfl⟩
  go_wp2
  go_ret2
  exact ⟨rfl, rfl⟩
/-- 'list[:k]', 'list[k:]' of a whole own row. -/
theorem run_front8 {P : Program} {t e : TypeId} (ht : P.underlying t = some (.slice e)) (hz : ∀ w, (Go.sizeOf e).run P w = .ok 1 w) {b n c k : Nat} {z : Int} (hk : k ≤ c) (hzk : z = (k : Int)) :
    ∀ W, (Instr.slice t (.slice (some ⟨b, 0, none⟩) n c) none (some (.int .i64 z)) none).run P W = .ok (.slice (some ⟨b, 0, none⟩) k c) W := fun W => by
  subst hzk
  have ht' : P.underlying t = some (.slice (P.elem t)) := by simp [Program.elem, ht]
  have he : P.elem t = e := by simp [Program.elem, ht]
  rw [run_slice_h W t _ _ _ ht' .i64 _ (by omega) (by omega), he, hz]
  simp [Result.andThen, sliced, Addr.add]
theorem run_back8 {P : Program} {t e : TypeId} (ht : P.underlying t = some (.slice e)) (hz : ∀ w, (Go.sizeOf e).run P w = .ok 1 w) {b n c k : Nat} {z : Int} (hk : k < c) (hkn : k ≤ n) (_ : n ≤ c) (hzk : z = (k : Int)) :
    ∀ W, (Instr.slice t (.slice (some ⟨b, 0, none⟩) n c) (some (.int .i64 z)) none none).run P W = .ok (.slice (some ⟨b, k, none⟩) (n - k) (c - k)) W := fun W => by
  subst hzk
  have ht' : P.underlying t = some (.slice (P.elem t)) := by simp [Program.elem, ht]
  have he : P.elem t = e := by simp [Program.elem, ht]
  have hck : c ≠ k := by omega
  rw [run_slice_l W t _ _ _ ht' .i64 _ (by omega) (by omega), he, hz]
  by_cases h0 : k = 0
  · subst h0; simp [Result.andThen, sliced, Addr.add, hck]
  · simp [Result.andThen, sliced, Addr.add, hck, h0]
theorem step_copy_self {P : Program} {ops : Array Oper} {o : Oper} {a : Act} {K : Act → World → Prop} {Q : Exit → Act → World → Prop} {E : Prop} (w : World) (hgd : o.guard = none) (d s : Operand) (t : TypeId)
    (ho : o.op = .call { callee := .builtin .copy, args := #[d, s], argTypes := #[t, t] })
    (lo : Nat) (e : TypeId) (i : TypeInfo) (ht : P.underlying t = some (.slice e)) (hi : P.info? e = some i) (hsize : i.size = 1)
    (g n c k m l1 c1 c2 : Nat) (x z : Value) (hd : a.eval d = .slice (some ⟨g, k, none⟩) l1 c1) (hs : a.eval s = .slice (some ⟨g, 0, none⟩) k c2)
    (hown : Own w lo e (some ⟨g, 0, none⟩) n c (List.replicate k x ++ List.replicate (n - k) z)) (hk : k ≤ n) (hl : l1 = n - k) (hm : m = Nat.min k l1) (h1 : x.oneCell' = true)
    (h : ∀ w', Own w' lo e (some ⟨g, 0, none⟩) n c (List.replicate (k + m) x ++ List.replicate (n - (k + m)) z) → Below lo w w' → K (a.put o.dst (goInt m)) w') :
    if Region.wanted o (yielded ops a.tmps) = true then Oper.wp P o a w K Q else E := by
  have hsz : (P.info? e).map (·.size) = some 1 := by rw [hi]; simp [hsize]
  have hmk : m ≤ k := by rw [hm]; exact Nat.min_le_left _ _
  have hml : k + m ≤ n := by have : m ≤ l1 := by rw [hm]; exact Nat.min_le_right _ _
                             omega
  rcases hown.2 with ⟨hv, _⟩ | ⟨g', cap, cur, hv, hb, hg, hnc, hcm, hcs, htake⟩
  · cases hv
  · injection hv with hA _ hcap
    injection hA with hA
    injection hA with hA
    subst hA hcap
    have hcl : cur.toList.length = c := by simpa using hcs
    have hrl : (List.replicate m x).length = m := by simp
    refine step_copy_splice hgd d s t t ho e ht hsz _ _ _ _ _ _ hd hs g k cur.toList e (by simpa using hg) (List.replicate m x) (by rw [hrl, hm]) ?_ (by omega) (fun u hu => by rw [List.eq_of_mem_replicate hu]; exact h1) lo w (Below.refl _ _) hb ?_
    · intro _
      refine ⟨rfl, _, rfl, fun j u hu => ?_⟩
      have hj : j < m := by have := (List.getElem?_eq_some_iff.1 hu).1; omega
      have hu' : u = x := List.eq_of_mem_replicate (List.mem_of_getElem? hu)
      subst hu'
      obtain ⟨b2, o2, hA2, hc2⟩ := hown.has.2 j (by omega)
      injection hA2 with hA2
      injection hA2 with q1 q2
      subst q1 q2
      have hadd : (⟨g, 0, none⟩ : Addr).add j = ⟨g, 0 + j, none⟩ := by unfold Addr.add; split <;> simp_all
      rw [hadd, hc2, List.getElem?_append_left (by simp; omega), List.getElem?_replicate, if_pos (by omega)]
    · intro w' hg' hb'
      rw [hrl]
      have htk : cur.toList.take n = List.replicate k x ++ List.replicate (n - k) z := by simpa using htake
      have e1 : cur.toList.take k = List.replicate k x := by
        have := congrArg (List.take k) htk
        rw [List.take_take, Nat.min_eq_left hk, List.take_append_of_le_length (by simp), List.take_of_length_le (show (List.replicate k x).length ≤ k by simp)] at this
        exact this
      have e2 : (cur.toList.drop (k + m)).take (n - (k + m)) = List.replicate (n - (k + m)) z := by
        have := congrArg (List.drop (k + m)) htk
        rw [List.drop_take, List.drop_append, List.drop_of_length_le (show (List.replicate k x).length ≤ k + m by simp), List.nil_append, List.length_replicate, List.drop_replicate] at this
        rw [this]; congr 1; omega
      refine h w' ⟨by simp; omega, .inr ⟨g, c, _, rfl, hb, hg'.out, hnc, hcm, ?_, ?_⟩⟩ hb'
      · rw [List.size_toArray, length_splice _ _ _ (by rw [hrl]; omega)]; omega
      · simp only [splice, Nat.mul_one]
        rw [e1, ← List.append_assoc, List.replicate_append_replicate, List.take_append, List.take_of_length_le (by simp; omega), List.length_replicate, List.length_replicate, e2]

set_option maxRecDepth 100000 in
set_option maxHeartbeats 8000000 in
theorem repeat_any {A : Option Addr} {c : Nat} {v : Int} {k : Nat} {w : World} (h : Has w A 1 (ints .i64 [v])) (hk1 : 1 ≤ k) (hk : k ≤ 65536) :
    Calls Try.prog 66 #[.slice A 1 c, .int .i64 (k : Int)] w fun e w' => ∃ A' c', e = .returned (.slice A' k c') ∧ Own w' w.heap.size 3 A' k c' (ints .i64 (List.replicate k v)) ∧ Below w.heap.size w w' := by
  obtain ⟨i0, hi, hz0, hz1, hz2⟩ := info_parts Try.infoInt
  have C := Lib.hid (mul_one k hk w)
  have g0 : decide ((k : Int) < 0) = false := by simp
  have g1 : decide ((k : Int) > 9223372036854775807) = false := by simp; omega
  have g2 : decide (9223372036854775807 < (k : Int)) = false := by simp; omega
  have u1 := u64_in k hk
  have u2 : IntKind.i64.wrap (k : Int) = (k : Int) := IntWalk.i64_in _ (by omega)
  have n1 : ((k : Int)).toNat = k := by omega
  go_enter Try.func66, Try.ntmps66
  go_wp2_with (fail)
  refine C.out.mono ?_
  rintro e w' ⟨rfl, rfl⟩
  go_wp2_with (first | (at_make; refine wpList_make_full _ rfl _ _ 23 rfl w.heap.size 3 i0 (.int .i64 0) 1 Try.underlying23 hi hz0 hz1 .i64 .i64 _ _ k rfl rfl (by omega) (by omega) (by rw [hz2]; omega) (by unfold maxLen; omega) (Nat.le_refl _) ?_; intro w1 hown hgrow; have hcap : (madeCells (Value.cells (.int .i64 0)) (k * 1)).toList = ints .i64 (List.replicate k 0) := (by rw [Nat.mul_one, show Value.cells (.int .i64 0) = #[.int .i64 0] from rfl]; simp only [ints, List.map_replicate]; exact toList_madeCells_one _ _); have O1 : Own w1 w.heap.size 3 (some ⟨w.heap.size, 0, none⟩) k k (ints .i64 (List.replicate k 0)) := (by unfold Own; rw [← hcap]; exact hown); have B1 : Below w.heap.size w w1 := below_of_grown hgrow (Nat.le_refl _) (fun k hk => by cases hk); have h1 := h.bel B1; clear hown hgrow hcap) | (refine wpList_copy_part _ rfl (.tmp 31) (.tmp 32) 23 rfl w.heap.size 3 i0 Try.underlying23 hi hz1 (some ⟨w.heap.size, 0, none⟩) k k _ rfl O1 A 1 c _ rfl h1 (by simp [ints, Value.oneCell']) 1 (.inr ⟨rfl, hk1⟩) ?_; intro w2 O2 B2))
  have O3 : Own w2 w.heap.size 3 (some ⟨w.heap.size, 0, none⟩) k k (List.replicate 1 (.int .i64 v) ++ List.replicate (k - 1) (.int .i64 0)) := by
    have hx : (ints .i64 [v]).take 1 ++ (ints .i64 (List.replicate k 0)).drop 1 = List.replicate 1 (.int .i64 v) ++ List.replicate (k - 1) (.int .i64 0) := by simp [ints]
    rw [← hx]; exact O2
  have B3 := B1.trans B2
  clear h h1 O1 O2 B1 B2
  go_loopw [8] (fun t wr => ∃ j : Nat, 1 ≤ j ∧ j ≤ k ∧ t = .int .i64 (j : Int) ∧ Own wr w.heap.size 3 (some ⟨w.heap.size, 0, none⟩) k k (List.replicate j (.int .i64 v) ++ List.replicate (k - j) (.int .i64 0)) ∧ Below w.heap.size w wr) (fun t _ => k - (intOf t).toNat)
  case atStart => exact ⟨1, Nat.le_refl _, hk1, rfl, O3, B3⟩
  case round =>
    obtain ⟨j, hj1, hj, rfl, O, B⟩ := hrel
    by_cases hlt : j < k
    · have hltB : decide ((j : Int) < (k : Int)) = true := by simp; omega
      have rb := run_back8 (P := Try.prog) Try.underlying23 Try.sizeOf3 (b := w.heap.size) (n := k) (c := k) (k := j) hlt hj (Nat.le_refl _) rfl
      have rf := run_front8 (P := Try.prog) Try.underlying23 Try.sizeOf3 (b := w.heap.size) (n := k) (c := k) (k := j) hj rfl
      have OD : Own wr.drew w.heap.size 3 (some ⟨w.heap.size, 0, none⟩) k k (List.replicate j (.int .i64 v) ++ List.replicate (k - j) (.int .i64 0)) := O.bel (below_drewN _ 1)
      have hge := B.size
      obtain ⟨m, hm⟩ : ∃ m, m = min j (k - j) := ⟨_, rfl⟩
      have hjm : IntKind.i64.wrap ((j : Int) + (m : Int)) = ((j + m : Nat) : Int) := by rw [IntWalk.i64_in _ (by omega)]; omega
      have HJM := Lib.hid (show j + m ≤ k ∧ 1 ≤ m by omega)
      have HM := Lib.hid hm
      clear O hm
      go_wp2
      go_region_law ((with_reducible refine step_copy_self _ rfl (.tmp 41) (.tmp 44) 23 rfl w.heap.size 3 i0 Try.underlying23 hi hz1 w.heap.size k k j m (k - j) (k - j) k (.int .i64 v) (.int .i64 0) ?c1 ?c2 OD ?c3 ?c4 ?c5 ?c6 ?_); (case c1 => kernel_rfl); (case c2 => kernel_rfl); (case c3 => exact hj); (case c4 => rfl); (case c5 => exact HM.out); (case c6 => rfl); intro w5 O5 B5)
      all_goals
        go_wp2
        simp only [List.getElem_toArray, List.getElem_cons_succ, List.getElem_cons_zero, Act.put, List.setIfInBounds_toArray, List.set_cons_succ, List.set_cons_zero]
        go_roundw
        case rel => exact ⟨j + m, by have := HJM.out; omega, HJM.out.1, rfl, O5, B.trans ((below_drewN _ 1).trans B5)⟩
        case measure => have := HJM.out; simp [intOf]; omega
    · have hltB : decide ((j : Int) < (k : Int)) = false := by simp; omega
      obtain rfl : j = k := by omega
      go_wp2
      go_ret
      have hx : List.replicate j (Value.int .i64 v) ++ List.replicate (j - j) (.int .i64 0) = ints .i64 (List.replicate j v) := by simp [ints]
      rw [hx] at O
      exact ⟨_, _, rfl, O, B⟩
theorem rep_nil : (madeCells (Value.cells (.int .i64 0)) (0 * 1)).toList = ints .i64 [] := by simp [madeCells, ints]
set_option maxHeartbeats 2000000 in
theorem repeat_zero {A : Option Addr} {c : Nat} {v : Int} {w : World} (h : Has w A 1 (ints .i64 [v])) :
    Calls Try.prog 66 #[.slice A 1 c, .int .i64 ((0 : Nat) : Int)] w fun e w' => ∃ A' c', e = .returned (.slice A' 0 c') ∧ Own w' w.heap.size 3 A' 0 c' (ints .i64 []) ∧ Below w.heap.size w w' := by
  obtain ⟨i0, hi, hz0, hz1, hz2⟩ := info_parts Try.infoInt
  have C := Lib.hid (mul_one 0 (by omega) w)
  go_enter Try.func66, Try.ntmps66
  go_wp2_with (fail)
  refine C.out.mono ?_
  rintro e w' ⟨rfl, rfl⟩
  go_wp2_with (first | (at_make; refine wpList_make_full _ rfl _ _ 23 rfl w.heap.size 3 i0 (.int .i64 0) 1 Try.underlying23 hi hz0 hz1 .i64 .i64 _ _ 0 rfl rfl rfl rfl (by rw [hz2]; omega) (by unfold maxLen; omega) (Nat.le_refl _) ?_; intro w1 hown hgrow; have O1 : Own w1 w.heap.size 3 (some ⟨w.heap.size, 0, none⟩) 0 0 (ints .i64 []) := (by rw [rep_nil] at hown; exact hown); have B1 : Below w.heap.size w w1 := below_of_grown hgrow (Nat.le_refl _) (fun k hk => by cases hk); have h1 := h.bel B1; clear hown hgrow) | (refine wpList_copy_part _ rfl (.tmp 31) (.tmp 32) 23 rfl w.heap.size 3 i0 Try.underlying23 hi hz1 (some ⟨w.heap.size, 0, none⟩) 0 0 _ rfl O1 A 1 c _ rfl h1 (by simp [ints, Value.oneCell']) 0 (.inl ⟨rfl, by omega⟩) ?_; intro w2 O2 B2))
  have B3 := B1.trans B2
  clear h h1 O1 B1 B2
  go_loopw [8] (fun t wr => t = .int .i64 0 ∧ Own wr w.heap.size 3 (some ⟨w.heap.size, 0, none⟩) 0 0 (ints .i64 []) ∧ Below w.heap.size w wr) (fun t _ => 0)
  case atStart => exact ⟨rfl, by simpa [ints] using O2, B3⟩
  case round =>
    obtain ⟨rfl, O, B⟩ := hrel
    go_wp2
    go_ret
    exact ⟨_, _, rfl, O, B⟩
theorem repeat_all {A : Option Addr} {c : Nat} {v : Int} {k : Nat} {w : World} (h : Has w A 1 (ints .i64 [v])) (hk : k ≤ 65536) :
    Calls Try.prog 66 #[.slice A 1 c, .int .i64 (k : Int)] w fun e w' => ∃ A' c', e = .returned (.slice A' k c') ∧ Own w' w.heap.size 3 A' k c' (ints .i64 (List.replicate k v)) ∧ Below w.heap.size w w' := by
  rcases Nat.eq_zero_or_pos k with rfl | h0
  · exact repeat_zero h
  · exact repeat_any h h0 hk
end Go.Proofs.Ytpciaokafokfmaa
