/-
  Chapter 12's program, what is served, what waits: what is proved here is what ServedBy and WaitsBefore return, in memory of their own, and that they write nothing that was there. Condition: lengths up to 2^24.
-/
import Derived.Test.YtpofkkenbepjpaaImp12a
namespace Go.Proofs.Ytpofkkenbepjpaa
open Go.RowKit

set_option maxRecDepth 100000 in
set_option maxHeartbeats 8000000 in
theorem implServedBy_r {A B D : Option Addr} {n c m d p q : Nat} {ws : List Int} {js : List Duo} {od : List Int} {w : World} {r : List Int} (h : Has w A n (ints .i64 ws)) (hj : HasD w B m js) (ho : Has w D p (ints .i64 od)) (hn : n ≤ 16777216) (hm : m ≤ 16777216) (hp : p ≤ 16777216) (hr : servedL ws js od = r) :
    Calls Try.prog 22 #[.slice A n c, .slice B m d, .slice D p q] w fun e w' => ∃ A' n' c', e = .returned (.slice A' n' c') ∧ Own w' w.heap.size 3 A' n' c' (ints .i64 r) ∧ Below w.heap.size w w' := by
  obtain ⟨i0, hi, hz0, hz1, hz2⟩ := info_parts Try.infoInt
  have HL := Lib.hid h.len
  have HJ := Lib.hid hj.1
  have HO := Lib.hid ho.len
  have HR := Lib.hid hr
  clear hr
  by_cases hok : jobsOk ws js
  rotate_left
  · have HE := Lib.hid (show servedL ws js od = [] from if_neg fun hh => hok hh.1)
    have C := Lib.hid (implJobsValid_b (c := c) (d := d) h hj hn hm (decide_eq_false hok))
    clear hok
    go_enter Try.func22, Try.ntmps22
    go_wp2_with (fail)
    refine C.out.mono ?_
    rintro e w1 ⟨rfl, B1⟩
    go_wp2
    go_ret
    exact ⟨_, _, _, rfl, by rw [← HR.out, HE.out]; exact World.ownsRow_nil _ _ _ _, B1⟩
  have C := Lib.hid (implJobsValid_b (c := c) (d := d) h hj hn hm (decide_eq_true hok))
  by_cases hix : ixOk od m
  rotate_left
  · have HE := Lib.hid (show servedL ws js od = [] from if_neg fun hh => hix (by rw [← HJ.out]; exact hh.2))
    clear hok
    go_enter Try.func22, Try.ntmps22
    go_wp2_with (fail)
    refine C.out.mono ?_
    rintro e w1 ⟨rfl, B1⟩
    have C2 := Lib.hid (areJobIndexes_b (B := B) (c := q) (d := d) (ho.bel B1) hp (decide_eq_false hix))
    clear hix
    go_wp2_with (fail)
    refine C2.out.mono ?_
    rintro e w' ⟨rfl, rfl⟩
    go_wp2
    go_ret
    exact ⟨_, _, _, rfl, by rw [← HR.out, HE.out]; exact World.ownsRow_nil _ _ _ _, B1⟩
  have HK := Lib.hid hok
  have HX := Lib.hid hix
  have hm60 : m ≤ 60 := by have := hok.2.2; have := HJ.out; omega
  have hn4 : n ≤ 4 := by have := hok.2.1.2.2; have := HL.out; omega
  clear hok hix
  go_enter Try.func22, Try.ntmps22
  go_wp2_with (fail)
  refine C.out.mono ?_
  rintro e w1 ⟨rfl, B1⟩
  have C2 := Lib.hid (areJobIndexes_b (B := B) (c := q) (d := d) (ho.bel B1) hp (decide_eq_true HX.out))
  go_wp2_with (fail)
  refine C2.out.mono ?_
  rintro e w' ⟨rfl, rfl⟩
  go_wp2_with (at_make; refine wpList_make_full _ rfl _ _ 23 rfl w1.heap.size 3 i0 (.int .i64 0) 1 Try.underlying23 hi hz0 hz1 .i64 .i64 _ _ n rfl rfl (by omega) (by omega) (by rw [hz2]; omega) (by unfold maxLen; omega) (Nat.le_refl _) ?_; intro w2 hown hgrow; rw [made_intsJ] at hown; have O2 : Own w2 w1.heap.size 3 (some ⟨w1.heap.size, 0, none⟩) n n (ints .i64 (List.replicate n 0)) := hown; have B2 : Below w1.heap.size w1 w2 := below_of_grown hgrow (Nat.le_refl _) (fun k hk => by cases hk); clear hown hgrow)
  have HZ1 := Lib.hid (show List.replicate n (0 : Int) = servedTo js od n 0 from (served_zero js od n).symm)
  rw [HZ1.out] at O2
  have hge1 := B1.size
  obtain ⟨G, hG⟩ : ∃ G, w1.heap.size = G := ⟨_, rfl⟩
  rw [hG] at O2 ⊢
  have O2' := O2.mono (lo' := w.heap.size) (by omega)
  have B3 := bel_trans B1 B2
  have hG0 : w.heap.size ≤ G := by omega
  clear O2 B2 B1 hG C C2 hge1
  go_loopw [25] (fun t wr => ∃ k : Nat, k ≤ m ∧ t = .int .i64 (k : Int) ∧ Own wr w.heap.size 3 (some ⟨G, 0, none⟩) n n (ints .i64 (servedTo js od n k)) ∧ Below w.heap.size w wr) (fun t _ => m - (intOf t).toNat)
  case atStart => exact ⟨0, Nat.zero_le _, rfl, O2', B3⟩
  case round =>
    clear O2' B3
    obtain ⟨k, hk, rfl, O2, B3⟩ := hrel
    have hge := B3.size
    have hg0 := O2.block.2
    by_cases hlt : k < m
    rotate_left
    · have hltB : decide ((k : Int) < (m : Int)) = false := by simp; omega
      obtain rfl : k = m := by omega
      have HE := Lib.hid (show servedL ws js od = servedTo js od n k by
        unfold servedL
        rw [if_pos ⟨HK.out, by rw [HJ.out]; exact HX.out⟩, HL.out, HJ.out])
      go_wp2
      go_ret
      exact ⟨_, _, _, rfl, by rw [← HR.out, HE.out]; exact O2, B3⟩
    have hltB : decide ((k : Int) < (m : Int)) = true := by simp; omega
    obtain ⟨b2, o2, rfl, hbl2, e0, e1⟩ := (hj.bel B3).row hlt
    have HD := Lib.hid (dj_ok HK.out (show k < js.length by rw [HJ.out]; exact hlt))
    have HJ0 := heap_alloc_new wr (.cells #[.int .i64 (dj js k).1, .int .i64 (dj js k).2] 31)
    obtain ⟨v0, v1⟩ := cells2D HJ0
    have BA : Below w.heap.size w (wr.alloc (.cells #[.int .i64 (dj js k).1, .int .i64 (dj js k).2] 31)) := B3.alloc (by omega) _
    have BB := below_allocJ wr (.cells #[.int .i64 (dj js k).1, .int .i64 (dj js k).2] 31)
    have O4 := O2.bel BB
    clear HJ0
    by_cases hs : (k : Int) ∈ od
    rotate_left
    · have HS1 := Lib.hid (served_skip js od n k hs)
      have CC := Lib.hid (contains_no (c := q) (ho.bel BA) hp hs)
      rw [← HS1.out] at O4
      generalize (dj js k).1 = f at *
      generalize (dj js k).2 = t at *
      clear hs HS1
      go_wp2_with (fail)
      refine CC.out.mono ?_
      rintro e w' ⟨rfl, rfl⟩
      go_wp2
      go_roundw
      case rel => exact ⟨k + 1, by omega, by go_num, O4, BA⟩
      case measure => simp [intOf]; omega
    have CC := Lib.hid (contains_yes (c := q) (ho.bel BA) hp hs)
    obtain ⟨cl, hcl⟩ := Int.eq_ofNat_of_zero_le HD.out.1
    have hcn : cl < n := by have h1 := HD.out.2.1; have := HL.out; omega
    have HS1 := Lib.hid (served_succ js od n k cl hcn hs hcl)
    obtain ⟨u, hu, x0, x1⟩ := O4.at_ hcn
    rw [intsJ_get (servedTo_at js od n k cl hcn)] at hu
    injection hu with hu
    subst hu
    have hsb := sum_bounds HK.out od cl k (by rw [HJ.out]; omega)
    have htb := HD.out.2.2
    have Q5 := O4.set_ cl (.int .i64 (sumTo js od cl k + (dj js k).2))
    rw [ints_set, ← HS1.out] at Q5
    have Q6 := own_drewJ Q5
    have BC := (BA.setCell (p := ⟨G, cl, none⟩) hG0 (.int .i64 (sumTo js od cl k + (dj js k).2))).drew
    have wS : IntKind.i64.wrap (sumTo js od cl k + (dj js k).2) = sumTo js od cl k + (dj js k).2 := IntWalk.i64_in _ (by omega)
    have cl0 : (0 : Int) ≤ (cl : Int) := by omega
    have cl1 : (cl : Int) < (n : Int) := by omega
    have s1 : -9223372036854775808 ≤ sumTo js od cl k + (dj js k).2 := by omega
    have s2 : sumTo js od cl k + (dj js k).2 ≤ 9223372036854775807 := by omega
    rw [World.setCell_alloc_past _ _ _ _ hg0] at Q6 BC
    generalize (dj js k).1 = f at *
    subst hcl
    generalize sumTo js od cl k = s at *
    generalize (dj js k).2 = t at *
    clear hs HS1 O4 hsb htb Q5
    go_wp2_with (fail)
    refine CC.out.mono ?_
    rintro e w' ⟨rfl, rfl⟩
    go_wp2
    go_region
    all_goals
      go_wp2
      go_roundw
      case rel => exact ⟨k + 1, by omega, by go_num, Q6, BC⟩
      case measure => simp [intOf]; omega

set_option maxHeartbeats 8000000 in
theorem implWaitsBefore_r {B D : Option Addr} {m d p q : Nat} {js : List Duo} {od : List Int} {key : Int} {w : World} {r : Int} (hj : HasD w B m js) (ho : Has w D p (ints .i64 od)) (hp : p ≤ 16777216) (hpq : p ≤ q) (hr : waitsL js od key = r) :
    Calls Try.prog 33 #[.slice B m d, .slice D p q, .int .i64 key] w fun e w' => e = .returned (.int .i64 r) ∧ w = w' := by
  have HJ := Lib.hid hj.1
  have HO := Lib.hid ho.len
  have HR := Lib.hid hr
  clear hr
  rcases ixOf_or od key with ⟨h1, h2⟩ | ⟨a, h1, h2, h3, h4⟩
  · have C := Lib.hid (index_r (c := q) ho hp h1)
    have HE := Lib.hid (show waitsL js od key = -1 by unfold waitsL; split; exact ahead_none h2 0; rfl)
    clear h1 h2
    go_enter Try.func33, Try.ntmps33
    go_wp2_with (fail)
    refine C.out.mono ?_
    rintro e w' ⟨rfl, rfl⟩
    go_wp2
    go_ret
    exact ⟨ret_int (HE.out.symm.trans HR.out), rfl⟩
  have C := Lib.hid (index_r (c := q) ho hp h1)
  have aB : decide ((a : Int) < 0) = false := by simp
  by_cases hix : ixOk od m
  rotate_left
  · have C2 := Lib.hid (areJobIndexes_b (B := B) (c := q) (d := d) ho hp (decide_eq_false hix))
    have HE := Lib.hid (show waitsL js od key = -1 from if_neg fun hh => hix (by rw [← HJ.out]; exact hh.1))
    clear h1 h2 h3 h4 hix
    go_enter Try.func33, Try.ntmps33
    go_wp2_with (fail)
    refine C.out.mono ?_
    rintro e w' ⟨rfl, rfl⟩
    go_wp2_with (fail)
    refine C2.out.mono ?_
    rintro e w' ⟨rfl, rfl⟩
    go_wp2
    go_ret
    exact ⟨ret_int (HE.out.symm.trans HR.out), rfl⟩
  have C2 := Lib.hid (areJobIndexes_b (B := B) (c := q) (d := d) ho hp (decide_eq_true hix))
  by_cases hsz : szOk js od
  rotate_left
  · have C3 := Lib.hid (areSizes_b (c := q) (d := d) ho hp hj hix (decide_eq_false hsz))
    have HE := Lib.hid (show waitsL js od key = -1 from if_neg fun hh => hsz hh.2)
    clear h1 h2 h3 h4 hix hsz
    go_enter Try.func33, Try.ntmps33
    go_wp2_with (fail)
    refine C.out.mono ?_
    rintro e w' ⟨rfl, rfl⟩
    go_wp2_with (fail)
    refine C2.out.mono ?_
    rintro e w' ⟨rfl, rfl⟩
    go_wp2_with (fail)
    refine C3.out.mono ?_
    rintro e w' ⟨rfl, rfl⟩
    go_wp2
    go_ret
    exact ⟨ret_int (HE.out.symm.trans HR.out), rfl⟩
  have C3 := Lib.hid (areSizes_b (c := q) (d := d) ho hp hj hix (decide_eq_true hsz))
  have HE := Lib.hid (show waitsL js od key = sizesL js (od.take a) by
    unfold waitsL
    rw [if_pos ⟨by rw [HJ.out]; exact hix, hsz⟩, ahead_take od a 0 h3 h4]; omega)
  have HX := Lib.hid hix
  have HS := Lib.hid hsz
  have hap : a < p := by have := HO.out; omega
  have a0 : (0 : Int) ≤ (a : Int) := by omega
  have a1 : (a : Int) ≤ (q : Int) := by omega
  obtain ⟨b1, o1, _, rfl, _, _, _⟩ := ho.at_ (i := 0) (by omega)
  clear h1 h2 h3 h4 hix hsz
  go_enter Try.func33, Try.ntmps33
  go_wp2_with (fail)
  refine C.out.mono ?_
  rintro e w' ⟨rfl, rfl⟩
  go_wp2_with (fail)
  refine C2.out.mono ?_
  rintro e w' ⟨rfl, rfl⟩
  go_wp2_with (fail)
  refine C3.out.mono ?_
  rintro e w' ⟨rfl, rfl⟩
  go_wp2
  go_loop [8, 32] (fun s t => ∃ (k : Nat) (sv : Int), k ≤ a ∧ t = .int .i64 (k : Int) ∧ s = .int .i64 sv ∧ sv = sizesL js (od.take k) ∧ 0 ≤ sv ∧ sv ≤ 9 * (k : Int)) (fun _ t => a - (intOf t).toNat)
  case atStart => exact ⟨0, 0, Nat.zero_le _, rfl, rfl, rfl, Int.le_refl _, by omega⟩
  case round =>
    obtain ⟨k, sv, hk, rfl, rfl, hsv, s0, s1⟩ := hrel
    have HSV := Lib.hid hsv
    clear hsv
    by_cases hlt : k < a
    · have hltB : decide ((k : Int) < (a : Int)) = true := by simp; omega
      obtain ⟨b2, o2, x, hb2, hbl, hx, d0⟩ := ho.at_ (show k < p by omega)
      injection hb2 with hb2
      injection hb2 with e1 e2
      subst e1 e2
      have hmem := List.mem_of_getElem? hx
      have g1 := HX.out x hmem
      have g2 := HS.out x hmem
      obtain ⟨i, rfl⟩ := Int.eq_ofNat_of_zero_le g1.1
      have him : i < m := by omega
      obtain ⟨b3, o3, rfl, hbl3, f0, f1⟩ := hj.row him
      simp only [Int.toNat_natCast] at g2
      have HN := Lib.hid (show sv + (dj js i).2 = sizesL js (od.take (k + 1)) by
        rw [HSV.out, List.take_add_one, hx, Option.toList, sizesL_app]; simp [sizesL])
      generalize (dj js i).2 = t at *
      have wS : IntKind.i64.wrap (sv + t) = sv + t := IntWalk.i64_in _ (by omega)
      clear hx hmem g1
      go_wp2
      go_round
      case rel => exact ⟨k + 1, _, by omega, by go_num, rfl, HN.out, by omega, by omega⟩
      case measure => simp [intOf]; omega
    · have hltB : decide ((k : Int) < (a : Int)) = false := by simp; omega
      obtain rfl : k = a := by omega
      go_wp2
      go_ret
      exact ⟨ret_int (HSV.out.trans (HE.out.symm.trans HR.out)), rfl⟩
end Go.Proofs.Ytpofkkenbepjpaa
