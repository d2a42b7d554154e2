/-
  Chapter 12's model, the order by classes, what is served, what waits: what is proved here is what StrictOrder, ServedBy and WaitsBefore return, in memory of their own, and that they write nothing that was there. Condition: lengths up to 2^24.
-/
import Derived.Test.YtpofkkenbepjpaaJobA
import Derived.Test.YtpofkkenbepjpaaMathJobB
import Derived.WalkSmall
import Derived.BigRegion
import Derived.BigQuiet
namespace Go.Proofs.Ytpofkkenbepjpaa
open Go.RowKit

theorem intsJ_app (k : IntKind) (a b : List Int) : ints k (a ++ b) = ints k a ++ ints k b := by simp [ints]
theorem intsJ_get {zs : List Int} {i : Nat} {z : Int} (h : zs[i]? = some z) : (ints .i64 zs)[i]? = some (.int .i64 z) := by simp [ints, h]
theorem lit_ownJ (w : World) : Own (w.alloc (.cells #[] 3)) w.heap.size 3 (some ⟨w.heap.size, 0, none⟩) 0 0 (ints .i64 []) := World.ownsRow_lit w #[] 0 (Nat.le_refl _) (by unfold maxLen; omega) rfl

set_option maxHeartbeats 8000000 in
theorem specStrictOrder_r {A B : Option Addr} {n c m d : Nat} {ws : List Int} {js : List Duo} {w : World} {r : List Int} (h : Has w A n (ints .i64 ws)) (hj : HasD w B m js) (hn : n ≤ 16777216) (hm : m ≤ 16777216) (hr : strictL ws js = r) :
    Calls Try.prog 26 #[.slice A n c, .slice B m d] w fun e w' => ∃ A' n' c', e = .returned (.slice A' n' c') ∧ Own w' w.heap.size 3 A' n' c' (ints .i64 r) ∧ Below w.heap.size w w' := by
  obtain ⟨i0, hi, hz0, hz1, hz2⟩ := info_parts Try.infoInt
  have HL := Lib.hid h.len
  have HJ := Lib.hid hj.1
  have HR := Lib.hid hr
  clear hr
  have E1 := lit_ownJ w
  have B0 : Below w.heap.size w (w.alloc (.cells #[] 3)) := below_allocJ w _
  by_cases hok : jobsOk ws js
  rotate_left
  · have HE := Lib.hid (show strictL ws js = [] from if_neg hok)
    by_cases h0 : 0 < n
    · have hB : decide ((0 : Int) < (n : Int)) = true := by simp; omega
      have C := Lib.hid (specJobsValid_b (c := c) (d := d) (h.bel B0) (hj.bel B0) hn hm (decide_eq_false hok))
      clear hok
      go_enter Try.func26, Try.ntmps26
      go_wp2
      go_loopw [5, 6] (fun v t wr => v = .slice (some ⟨w.heap.size, 0, none⟩) 0 0 ∧ t = .int .i64 (0 : Int) ∧ wr = w.alloc (.cells #[] 3)) (fun _ _ _ => 0)
      case atStart => exact ⟨rfl, rfl, rfl⟩
      case round =>
        obtain ⟨rfl, rfl, rfl⟩ := hrel
        go_wp2_with (fail)
        refine C.out.mono ?_
        rintro e w' ⟨rfl, rfl⟩
        go_wp2
        go_ret
        exact ⟨_, _, _, rfl, by rw [← HR.out, HE.out]; exact E1, B0⟩
    · have hB : decide ((0 : Int) < (n : Int)) = false := by simp; omega
      clear hok
      go_enter Try.func26, Try.ntmps26
      go_wp2
      go_loopw [5, 6] (fun v t wr => v = .slice (some ⟨w.heap.size, 0, none⟩) 0 0 ∧ t = .int .i64 (0 : Int) ∧ wr = w.alloc (.cells #[] 3)) (fun _ _ _ => 0)
      case atStart => exact ⟨rfl, rfl, rfl⟩
      case round =>
        obtain ⟨rfl, rfl, rfl⟩ := hrel
        go_wp2
        go_ret
        exact ⟨_, _, _, rfl, by rw [← HR.out, HE.out]; exact E1, B0⟩
  have hm60 : m ≤ 60 := by have := hok.2.2; have := HJ.out; omega
  have hn4 : n ≤ 4 := by have := hok.2.1.2.2; have := HL.out; omega
  have HE := Lib.hid (show strictL ws js = strictTo js n by unfold strictL strictTo; rw [if_pos hok, HL.out])
  have C := Lib.hid (fun (W : World) (hb : Below w.heap.size w W) => specJobsValid_b (c := c) (d := d) (h.bel hb) (hj.bel hb) hn hm (decide_eq_true hok))
  clear hok
  go_enter Try.func26, Try.ntmps26
  go_wp2
  go_loopw [5, 6] (fun v t wr => ∃ (k q : Nat) (A' : Option Addr) (c' : Nat), k ≤ n ∧ t = .int .i64 (k : Int) ∧ v = .slice A' q c' ∧ Own wr w.heap.size 3 A' q c' (ints .i64 (strictTo js k)) ∧ Below w.heap.size w wr) (fun _ t _ => n - (intOf t).toNat)
  case atStart => exact ⟨0, 0, _, _, Nat.zero_le _, rfl, rfl, E1, B0⟩
  case round =>
    obtain ⟨k, q, A1, c1, hk, rfl, rfl, O1, B1⟩ := hrel
    by_cases hlt : k < n
    · have hltB : decide ((k : Int) < (n : Int)) = true := by simp; omega
      have CK := Lib.hid (C.out wr B1)
      have hql : q ≤ 240 := by
        have h1 := O1.has.len
        have h2 := strictTo_len js k
        have h3 := Nat.mul_le_mul (show k ≤ 4 by omega) (show js.length ≤ 60 by have := HJ.out; omega)
        omega
      go_wp2_with (fail)
      refine CK.out.mono ?_
      rintro e w' ⟨rfl, rfl⟩
      go_wp2
      generalize hwb : wr = wb at *; clear hwb
      go_loopw [5, 7] (fun v t wr => ∃ (i q : Nat) (A' : Option Addr) (c' : Nat), i ≤ m ∧ t = .int .i64 (i : Int) ∧ v = .slice A' q c' ∧ q ≤ 240 + i ∧ Own wr w.heap.size 3 A' q c' (ints .i64 (strictTo js k ++ (idxs js k i).map Int.ofNat)) ∧ Below w.heap.size w wr) (fun _ t _ => m - (intOf t).toNat)
      case atStart => exact ⟨0, q, _, _, Nat.zero_le _, rfl, rfl, by omega, by rw [show (idxs js k 0).map Int.ofNat = [] from rfl, List.append_nil]; exact O1, B1⟩
      case round =>
        obtain ⟨i, q2, A2, c2, hil, rfl, rfl, hq2, O2, B2⟩ := hrel
        have hge := B2.size
        by_cases hlt2 : i < m
        · have hlt2B : decide ((i : Int) < (m : Int)) = true := by simp; omega
          obtain ⟨b1, o1, rfl, hbl1, d0, d1⟩ := (hj.bel B2).row hlt2
          have HS := Lib.hid (strict_step js k i)
          generalize (dj js i).1 = f at d0 HS
          by_cases hf : f = (k : Int)
          · have fB : (f == (k : Int)) = true := by simp [hf]
            have HS2 := Lib.hid (HS.out.trans (by rw [if_pos hf]))
            clear hf HS
            go_wp2_with (at_builtin; refine wpList_apps _ rfl (.tmp 33) (.tmp 35) 23 rfl w.heap.size 3 i0 (.int .i64 0) 8 Try.underlying23 hi hz0 hz1 hz2 rfl A2 q2 c2 _ rfl O2 1 1 #[.int .i64 (i : Int)] rfl rfl (by simp [Value.oneCell']) (by decide) (by omega) (by decide) (by omega) ?_; intro g3 c3 w3 O3 G3 B3 _)
            go_roundw
            case rel => exact ⟨i + 1, q2 + 1, _, _, by omega, by go_num, rfl, by omega, by rw [HS2.out, intsJ_app]; exact O3, B2.trans B3⟩
            case measure => simp [intOf]; omega
          · have fB : (f == (k : Int)) = false := by simp [hf]
            have HS2 := Lib.hid (HS.out.trans (by rw [if_neg hf, List.append_nil]))
            clear hf HS
            go_wp2
            go_roundw
            case rel => exact ⟨i + 1, q2, _, _, by omega, by go_num, rfl, by omega, by rw [HS2.out]; exact O2, B2⟩
            case measure => simp [intOf]; omega
        · have hlt2B : decide ((i : Int) < (m : Int)) = false := by simp; omega
          obtain rfl : i = m := by omega
          have HS := Lib.hid (show strictTo js k ++ (idxs js k i).map Int.ofNat = strictTo js (k + 1) by rw [strictTo_succ, HJ.out])
          rw [HS.out] at O2
          go_wp2
          go_roundw
          case rel => exact ⟨k + 1, q2, _, _, by omega, by go_num, rfl, O2, B2⟩
          case measure => simp [intOf]; omega
    · have hltB : decide ((k : Int) < (n : Int)) = false := by simp; omega
      obtain rfl : k = n := by omega
      go_wp2
      go_ret
      exact ⟨_, _, _, rfl, by rw [← HR.out, HE.out]; exact O1, B1⟩

theorem own_drewJ {w : World} {lo n c : Nat} {e : TypeId} {A : Option Addr} {xs : List Value} (h : Own w lo e A n c xs) : Own w.drew lo e A n c xs := h.bel ((Below.refl _ _).drew)
theorem made_intsJ (k : Nat) : (madeCells (Value.cells (.int .i64 0)) (k * 1)).toList = ints .i64 (List.replicate k 0) := by
  rw [Nat.mul_one, show Value.cells (.int .i64 0) = #[.int .i64 0] from rfl]
  simp only [ints, List.map_replicate]
  exact toList_madeCells_one _ _
theorem made_boolsJ (k : Nat) : (madeCells (Value.cells (.bool false)) (k * 1)).toList = bools (List.replicate k false) := by
  rw [Nat.mul_one, show Value.cells (.bool false) = #[.bool false] from rfl]
  simp only [bools, List.map_replicate]
  exact toList_madeCells_one _ _
set_option maxRecDepth 100000 in
set_option maxHeartbeats 8000000 in
theorem specServedBy_r {A B D : Option Addr} {n c m d p q : Nat} {ws : List Int} {js : List Duo} {od : List Int} {w : World} {r : List Int} (h : Has w A n (ints .i64 ws)) (hj : HasD w B m js) (ho : Has w D p (ints .i64 od)) (hn : n ≤ 16777216) (hm : m ≤ 16777216) (hp : p ≤ 16777216) (hr : servedL ws js od = r) :
    Calls Try.prog 28 #[.slice A n c, .slice B m d, .slice D p q] w fun e w' => ∃ A' n' c', e = .returned (.slice A' n' c') ∧ Own w' w.heap.size 3 A' n' c' (ints .i64 r) ∧ Below w.heap.size w w' := by
  obtain ⟨i0, hi, hz0, hz1, hz2⟩ := info_parts Try.infoInt
  obtain ⟨j0, hji, jz0, jz1, jz2⟩ := info_parts Try.infoBool
  have HL := Lib.hid h.len
  have HJ := Lib.hid hj.1
  have HO := Lib.hid ho.len
  have HR := Lib.hid hr
  clear hr
  by_cases hok : jobsOk ws js
  rotate_left
  · have HE := Lib.hid (show servedL ws js od = [] from if_neg fun hh => hok hh.1)
    have C := Lib.hid (specJobsValid_b (c := c) (d := d) h hj hn hm (decide_eq_false hok))
    have E1 := lit_ownJ w
    clear hok
    go_enter Try.func28, Try.ntmps28
    go_wp2_with (fail)
    refine C.out.mono ?_
    rintro e w' ⟨rfl, rfl⟩
    go_wp2
    go_ret
    exact ⟨_, _, _, rfl, by rw [← HR.out, HE.out]; exact E1, below_allocJ w _⟩
  have C := Lib.hid (specJobsValid_b (c := c) (d := d) h hj hn hm (decide_eq_true hok))
  have HK := Lib.hid hok
  have hm60 : m ≤ 60 := by have := hok.2.2; have := HJ.out; omega
  have hn4 : n ≤ 4 := by have := hok.2.1.2.2; have := HL.out; omega
  have wm : IntKind.i64.wrap ((m : Int) - 1) = (m : Int) - 1 := IntWalk.i64_in _ (by omega)
  clear hok
  go_enter Try.func28, Try.ntmps28
  go_wp2_with (fail)
  refine C.out.mono ?_
  rintro e w' ⟨rfl, rfl⟩
  go_wp2_with (first | (at_make; refine wpList_make_full _ rfl _ _ 23 rfl w.heap.size 3 i0 (.int .i64 0) 1 Try.underlying23 hi hz0 hz1 .i64 .i64 _ _ n rfl rfl (by omega) (by omega) (by rw [hz2]; omega) (by unfold maxLen; omega) (Nat.le_refl _) ?_; intro w1 hown hgrow; rw [made_intsJ] at hown; have O1 : Own w1 w.heap.size 3 (some ⟨w.heap.size, 0, none⟩) n n (ints .i64 (List.replicate n 0)) := hown; have B1 : Below w.heap.size w w1 := below_of_grown hgrow (Nat.le_refl _) (fun k hk => by cases hk); have s1 : w.heap.size < w1.heap.size := O1.block.2; clear hown hgrow) | (at_make; refine wpList_make_full _ rfl _ _ 69 rfl w1.heap.size 4 j0 (.bool false) 1 Try.underlying69 hji jz0 jz1 .i64 .i64 _ _ m rfl rfl (by omega) (by omega) (by rw [jz2]; omega) (by unfold maxLen; omega) (Nat.le_refl _) ?_; intro w2 hown hgrow; rw [made_boolsJ] at hown; have P2 : Own w2 w1.heap.size 4 (some ⟨w1.heap.size, 0, none⟩) m m (bools (List.replicate m false)) := hown; have B2 : Below w1.heap.size w1 w2 := below_of_grown hgrow (Nat.le_refl _) (fun k hk => by cases hk); clear hown hgrow))
  have O2 := O1.bel B2
  have B3 := bel_trans B1 B2
  clear B2 O1 B1
  have HZ1 := Lib.hid (show List.replicate n (0 : Int) = servedTo js (od.take 0) n m from (served_nil js n m).symm)
  have HZ2 := Lib.hid (show List.replicate m false = seenL (od.take 0) m from (seenL_nil m).symm)
  rw [HZ1.out] at O2
  rw [HZ2.out] at P2
  go_loopw [9] (fun t wr => ∃ k : Nat, k ≤ p ∧ t = .int .i64 (k : Int) ∧ Hid (ixOk (od.take k) m) ∧ Own wr w.heap.size 3 (some ⟨w.heap.size, 0, none⟩) n n (ints .i64 (servedTo js (od.take k) n m)) ∧ Own wr w1.heap.size 4 (some ⟨w1.heap.size, 0, none⟩) m m (bools (seenL (od.take k) m)) ∧ Below w.heap.size w wr) (fun t _ => p - (intOf t).toNat)
  case atStart =>
    have : Hid (ixOk (od.take 0) m) := fun z hz => by simp at hz
    exact ⟨0, Nat.zero_le _, rfl, this, O2, P2, B3⟩
  case round =>
    clear O2 P2 B3
    obtain ⟨k, hk, rfl, HI, O2, P2, B3⟩ := hrel
    have hge := B3.size
    have hg1 := P2.block.2
    have hg0 := O2.block.2
    by_cases hlt : k < p
    · have hltB : decide ((k : Int) < (p : Int)) = true := by simp; omega
      obtain ⟨b1, o1, x, rfl, hbl1, hx, d9⟩ := ho.at_ hlt
      have d0 := (B3.cell (p := ⟨b1, o1 + k, none⟩) hbl1).trans d9
      have hbl9 : b1 < wr.heap.size := Nat.lt_of_lt_of_le hbl1 hge
      by_cases hin : 0 ≤ x ∧ x ≤ (m : Int) - 1
      rotate_left
      · have C1 := Lib.hid (l1In_no x 0 ((m : Int) - 1) wr hin)
        have HE := Lib.hid (show servedL ws js od = [] from if_neg fun hh => hin (by have h1 := hh.2 x (List.mem_of_getElem? hx); have := HJ.out; omega))
        have E1 := lit_ownJ wr
        clear hx hin
        go_wp2_with (fail)
        refine C1.out.mono ?_
        rintro e w' ⟨rfl, rfl⟩
        go_wp2
        go_ret
        exact ⟨_, _, _, rfl, by rw [← HR.out, HE.out]; exact E1.mono (by omega), B3.alloc (by omega) _⟩
      have C1 := Lib.hid (l1In_yes x 0 ((m : Int) - 1) wr hin.1 hin.2)
      obtain ⟨i, rfl⟩ := Int.eq_ofNat_of_zero_le hin.1
      have him : i < m := by omega
      have HT := Lib.hid (show od.take (k + 1) = od.take k ++ [(i : Int)] by rw [List.take_add_one, hx]; rfl)
      have HI2 : Hid (ixOk (od.take (k + 1)) m) := all_take (P := fun x : Int => 0 ≤ x ∧ x < (m : Int)) HI.out hx (by omega)
      obtain ⟨b2, o2, rfl, hbl2, e0, e1⟩ := (hj.bel B3).row him
      have HD := Lib.hid (dj_ok HK.out (show i < js.length by rw [HJ.out]; exact him))
      obtain ⟨g, hg, u0, u1⟩ := own_bool P2 him
      injection hg with hg
      injection hg with hg
      subst hg
      rw [seenL_get _ _ _ him] at u0
      clear hx hin
      have HJ0 := heap_alloc_new wr (.cells #[.int .i64 (dj js i).1, .int .i64 (dj js i).2] 31)
      obtain ⟨v0, v1⟩ := cells2D HJ0
      have BA : Below w.heap.size w (wr.alloc (.cells #[.int .i64 (dj js i).1, .int .i64 (dj js i).2] 31)) := B3.alloc (by omega) _
      have BB := below_allocJ wr (.cells #[.int .i64 (dj js i).1, .int .i64 (dj js i).2] 31)
      have O4 := O2.bel BB
      have P4 := P2.bel BB
      obtain ⟨yv, y0, y1, y2⟩ := P4.at_ him
      clear y0 y1 yv
      clear HJ0
      by_cases hs : (i : Int) ∈ od.take k
      · have sB : decide ((i : Int) ∈ od.take k) = true := decide_eq_true hs
        rw [sB] at u0
        have u2 := (BB.cell (p := ⟨w1.heap.size, i, none⟩) hg1).trans u0
        have HS1 := Lib.hid (served_again js (od.take k) n i m hs)
        have HS2 := Lib.hid (seenL_snoc (od.take k) m i him)
        have P5 := P4.set_ i (.bool true)
        have O5 := O4.bel (Below.refl _ _)
        have G5 : Own ((wr.alloc (.cells #[.int .i64 (dj js i).1, .int .i64 (dj js i).2] 31)).setCell ⟨w1.heap.size, i, none⟩ (.bool true)) w.heap.size 3 (some ⟨w.heap.size, 0, none⟩) n n (ints .i64 (servedTo js (od.take k) n m)) :=
          O4.grown (grown_set (World.grownBy.refl _ (some w1.heap.size)) i _) (fun a ha he => by cases ha; injection he with he; have he' : w.heap.size = w1.heap.size := he; omega)
        have BC := BA.setCell (p := ⟨w1.heap.size, i, none⟩) (by show w.heap.size ≤ w1.heap.size; omega) (.bool true)
        rw [bools_set, ← HS2.out, ← HT.out] at P5
        rw [← HS1.out, ← HT.out] at G5
        rw [World.setCell_alloc_past _ _ _ _ hg1] at G5 P5 BC
        generalize (dj js i).1 = f at *
        generalize (dj js i).2 = t at *
        clear hs sB HS1 HS2 O5 O4 P4
        go_wp2_with (fail)
        refine C1.out.mono ?_
        rintro e w' ⟨rfl, rfl⟩
        go_wp2
        go_roundw
        case rel => exact ⟨k + 1, by omega, by go_num, HI2, G5, P5, BC⟩
        case measure => simp [intOf]; omega
      · have sB : decide ((i : Int) ∈ od.take k) = false := decide_eq_false hs
        rw [sB] at u0
        have u2 := (BB.cell (p := ⟨w1.heap.size, i, none⟩) hg1).trans u0
        obtain ⟨cl, hcl⟩ := Int.eq_ofNat_of_zero_le HD.out.1
        have hcn : cl < n := by have h1 := HD.out.2.1; have := HL.out; omega
        have HS1 := Lib.hid (served_snoc js (od.take k) n i cl hcn (by rw [HJ.out]; exact him) hs hcl)
        rw [HJ.out] at HS1
        have HS2 := Lib.hid (seenL_snoc (od.take k) m i him)
        obtain ⟨u, hu, x0, x1⟩ := O4.at_ hcn
        rw [intsJ_get (servedTo_at js (od.take k) n m cl hcn)] at hu
        injection hu with hu
        subst hu
        have hsb := sum_bounds HK.out (od.take k) cl m (by rw [HJ.out]; exact Nat.le_refl _)
        have htb := HD.out.2.2
        have Q5 := O4.set_ cl (.int .i64 (sumTo js (od.take k) cl m + (dj js i).2))
        rw [ints_set, ← HS1.out, ← HT.out] at Q5
        have Q6 := own_drewJ Q5
        have gr1 := grown_set (World.grownBy.refl (wr.alloc (.cells #[.int .i64 (dj js i).1, .int .i64 (dj js i).2] 31)) (some w.heap.size)) cl (.int .i64 (sumTo js (od.take k) cl m + (dj js i).2))
        have P5 := own_drewJ (P4.grown gr1 (fun a ha he => by cases ha; injection he with he; have he' : w1.heap.size = w.heap.size := he; omega))
        obtain ⟨_, y0, y1, y2⟩ := P5.at_ him
        have P6 := P5.set_ i (.bool true)
        rw [bools_set, ← HS2.out, ← HT.out] at P6
        have gr2 := grown_set (World.grownBy.refl ((wr.alloc (.cells #[.int .i64 (dj js i).1, .int .i64 (dj js i).2] 31)).setCell ⟨w.heap.size, cl, none⟩ (.int .i64 (sumTo js (od.take k) cl m + (dj js i).2))).drew (some w1.heap.size)) i (.bool true)
        have Q7 := Q6.grown gr2 (fun a ha he => by cases ha; injection he with he; have he' : w.heap.size = w1.heap.size := he; omega)
        have BM := (BA.setCell (p := ⟨w.heap.size, cl, none⟩) (Nat.le_refl _) (.int .i64 (sumTo js (od.take k) cl m + (dj js i).2))).drew
        rw [World.setCell_alloc_past _ _ _ _ hg0] at BM
        have d8 := (BM.cell (p := ⟨b1, o1 + k, none⟩) hbl1).trans d9
        clear BM
        have BC := ((BA.setCell (p := ⟨w.heap.size, cl, none⟩) (Nat.le_refl _) (.int .i64 (sumTo js (od.take k) cl m + (dj js i).2))).drew).setCell (p := ⟨w1.heap.size, i, none⟩) (by show w.heap.size ≤ w1.heap.size; omega) (.bool true)
        have wS : IntKind.i64.wrap (sumTo js (od.take k) cl m + (dj js i).2) = sumTo js (od.take k) cl m + (dj js i).2 := IntWalk.i64_in _ (by omega)
        have cl0 : (0 : Int) ≤ (cl : Int) := by omega
        have cl1 : (cl : Int) < (n : Int) := by omega
        have sI : Hid (0 ≤ sumTo js (od.take k) cl m + (dj js i).2 ∧ sumTo js (od.take k) cl m + (dj js i).2 ≤ 1000) := by
          have : 0 ≤ sumTo js (od.take k) cl m + (dj js i).2 ∧ sumTo js (od.take k) cl m + (dj js i).2 ≤ 1000 := by omega
          exact this
        have s1 : -9223372036854775808 ≤ sumTo js (od.take k) cl m + (dj js i).2 := by have := sI.out; omega
        have s2 : sumTo js (od.take k) cl m + (dj js i).2 ≤ 9223372036854775807 := by have := sI.out; omega
        rw [World.setCell_alloc_past _ _ _ _ hg0] at y1 y2
        rw [World.setCell_alloc_past _ _ _ _ hg0, World.setCell_drew, World.setCell_alloc_past _ _ _ _ (by simpa using hg1)] at Q7 P6 BC
        generalize (dj js i).1 = f at *
        subst hcl
        generalize sumTo js (od.take k) cl m = s at *
        generalize (dj js i).2 = t at *
        clear hs sB HS1 HS2 O4 P4 hsb htb gr1 gr2 Q5 P5 Q6
        go_wp2_with (fail)
        refine C1.out.mono ?_
        rintro e w' ⟨rfl, rfl⟩
        go_wp2
        go_region
        all_goals
          go_wp2
          go_roundw
          case rel => exact ⟨k + 1, by omega, by go_num, HI2, Q7, P6, BC⟩
          case measure => simp [intOf]; omega
    · have hltB : decide ((k : Int) < (p : Int)) = false := by simp; omega
      obtain rfl : k = p := by omega
      have HE := Lib.hid (show servedL ws js od = servedTo js (od.take k) n m by
        rw [List.take_of_length_le (by rw [HO.out]; omega)]
        have h1 := HI.out
        rw [List.take_of_length_le (by rw [HO.out]; omega)] at h1
        unfold servedL
        rw [if_pos ⟨HK.out, by rw [HJ.out]; exact h1⟩, HL.out, HJ.out])
      go_wp2
      go_ret
      exact ⟨_, _, _, rfl, by rw [← HR.out, HE.out]; exact O2, B3⟩

set_option maxHeartbeats 8000000 in
theorem specWaitsBefore_r {B D : Option Addr} {m d p q : Nat} {js : List Duo} {od : List Int} {key : Int} {w : World} {r : Int} (hj : HasD w B m js) (ho : Has w D p (ints .i64 od)) (hm : m ≤ 16777216) (hp : p ≤ 16777216) (hr : waitsL js od key = r) :
    Calls Try.prog 34 #[.slice B m d, .slice D p q, .int .i64 key] w fun e w' => e = .returned (.int .i64 r) ∧ w = w' := by
  have HJ := Lib.hid hj.1
  have HO := Lib.hid ho.len
  have HR := Lib.hid hr
  clear hr
  have wm : IntKind.i64.wrap ((m : Int) - 1) = (m : Int) - 1 := IntWalk.i64_in _ (by omega)
  go_enter Try.func34, Try.ntmps34
  go_wp2
  go_loop [8] (fun t => ∃ k : Nat, k ≤ p ∧ t = .int .i64 (k : Int) ∧ Hid (ixOk (od.take k) m ∧ szOk js (od.take k))) (fun t => p - (intOf t).toNat)
  case atStart =>
    have : Hid (ixOk (od.take 0) m ∧ szOk js (od.take 0)) := ⟨fun z hz => by simp at hz, fun z hz => by simp at hz⟩
    exact ⟨0, Nat.zero_le _, rfl, this⟩
  case round =>
    obtain ⟨k, hk, rfl, HI⟩ := hrel
    by_cases hlt : k < p
    · have hltB : decide ((k : Int) < (p : Int)) = true := by simp; omega
      obtain ⟨b1, o1, x, rfl, hbl1, hx, d0⟩ := ho.at_ hlt
      by_cases hin : 0 ≤ x ∧ x ≤ (m : Int) - 1
      rotate_left
      · have C1 := Lib.hid (l1In_no x 0 ((m : Int) - 1) w hin)
        have HE := Lib.hid (show waitsL js od key = -1 from if_neg fun hh => hin (by have h1 := hh.1 x (List.mem_of_getElem? hx); have := HJ.out; omega))
        clear hx hin
        go_wp2_with (fail)
        refine C1.out.mono ?_
        rintro e w' ⟨rfl, rfl⟩
        go_wp2
        go_ret
        exact ⟨ret_int (HE.out.symm.trans HR.out), rfl⟩
      have C1 := Lib.hid (l1In_yes x 0 ((m : Int) - 1) w hin.1 hin.2)
      obtain ⟨i, rfl⟩ := Int.eq_ofNat_of_zero_le hin.1
      have him : i < m := by omega
      obtain ⟨b2, o2, rfl, hbl2, e0, e1⟩ := hj.row him
      by_cases hz : 1 ≤ (dj js i).2 ∧ (dj js i).2 ≤ 9
      rotate_left
      · have C2 := Lib.hid (l1In_no (dj js i).2 1 9 w hz)
        have HE := Lib.hid (show waitsL js od key = -1 from if_neg fun hh => hz (by have h1 := hh.2 _ (List.mem_of_getElem? hx); simpa using h1))
        generalize (dj js i).2 = t at *
        clear hx hin hz
        go_wp2_with (fail)
        refine C1.out.mono ?_
        rintro e w' ⟨rfl, rfl⟩
        go_wp2_with (fail)
        refine C2.out.mono ?_
        rintro e w' ⟨rfl, rfl⟩
        go_wp2
        go_ret
        exact ⟨ret_int (HE.out.symm.trans HR.out), rfl⟩
      have C2 := Lib.hid (l1In_yes (dj js i).2 1 9 w hz.1 hz.2)
      have HI2 : Hid (ixOk (od.take (k + 1)) m ∧ szOk js (od.take (k + 1))) := by
        have : ixOk (od.take (k + 1)) m ∧ szOk js (od.take (k + 1)) := ⟨all_take (P := fun x : Int => 0 ≤ x ∧ x < (m : Int)) HI.out.1 hx (by omega), all_take (P := fun x : Int => 1 ≤ (dj js x.toNat).2 ∧ (dj js x.toNat).2 ≤ 9) HI.out.2 hx (by simpa using hz)⟩
        exact this
      generalize (dj js i).2 = t at *
      clear hx hin hz
      go_wp2_with (fail)
      refine C1.out.mono ?_
      rintro e w' ⟨rfl, rfl⟩
      go_wp2_with (fail)
      refine C2.out.mono ?_
      rintro e w' ⟨rfl, rfl⟩
      go_wp2
      go_round
      case rel => exact ⟨k + 1, by omega, by go_num, HI2⟩
      case measure => simp [intOf]; omega
    · have hltB : decide ((k : Int) < (p : Int)) = false := by simp; omega
      obtain rfl : k = p := by omega
      have HA := Lib.hid (show ixOk od m ∧ szOk js od by have := HI.out; rwa [List.take_of_length_le (by rw [HO.out]; omega)] at this)
      have HE := Lib.hid (show aheadL js key 0 (od.drop 0) = r by rw [← HR.out]; unfold waitsL; rw [if_pos ⟨by rw [HJ.out]; exact HA.out.1, HA.out.2⟩]; rfl)
      clear HI hltB hk hlt
      go_wp2
      go_loop [7, 9] (fun s t => ∃ (k2 : Nat) (sv : Int), k2 ≤ k ∧ t = .int .i64 (k2 : Int) ∧ s = .int .i64 sv ∧ 0 ≤ sv ∧ sv ≤ 9 * (k2 : Int) ∧ Hid (aheadL js key sv (od.drop k2) = r)) (fun _ t => k - (intOf t).toNat)
      case atStart =>
        have : Hid (aheadL js key 0 (od.drop 0) = r) := HE.out
        exact ⟨0, 0, Nat.zero_le _, rfl, rfl, Int.le_refl _, by omega, this⟩
      case round =>
        obtain ⟨k2, sv, hk2, rfl, rfl, s0, s1, HP⟩ := hrel
        by_cases hlt : k2 < k
        · have hltB : decide ((k2 : Int) < (k : Int)) = true := by simp; omega
          obtain ⟨b1, o1, x, rfl, hbl1, hx, d0⟩ := ho.at_ hlt
          by_cases hxk : x = key
          · have xB : (x == key) = true := by simp [hxk]
            have HK := Lib.hid (show sv = r by have h1 := HP.out; rw [hxk] at hx; rwa [ahead_here hx] at h1)
            clear hx hxk
            go_wp2
            go_ret
            exact ⟨ret_int HK.out, rfl⟩
          · have xB : (x == key) = false := by simp [hxk]
            have hmem := List.mem_of_getElem? hx
            have h1 := HA.out.1 x hmem
            have h2 := HA.out.2 x hmem
            obtain ⟨i, rfl⟩ := Int.eq_ofNat_of_zero_le h1.1
            have him : i < m := by omega
            obtain ⟨b2, o2, rfl, hbl2, e0, e1⟩ := hj.row him
            simp only [Int.toNat_natCast] at h2
            have HP2 : Hid (aheadL js key (sv + (dj js i).2) (od.drop (k2 + 1)) = r) := by
              have h3 := HP.out
              rw [ahead_skip hx hxk] at h3
              exact h3
            generalize (dj js i).2 = t at *
            have wS : IntKind.i64.wrap (sv + t) = sv + t := IntWalk.i64_in _ (by omega)
            clear hx hxk hmem h1
            go_wp2
            go_round
            case rel => exact ⟨k2 + 1, _, by omega, by go_num, rfl, by omega, by omega, HP2⟩
            case measure => simp [intOf]; omega
        · have hltB : decide ((k2 : Int) < (k : Int)) = false := by simp; omega
          obtain rfl : k2 = k := by omega
          have HK := Lib.hid (show (-1 : Int) = r by have h1 := HP.out; rwa [List.drop_of_length_le (by rw [HO.out]; omega)] at h1)
          go_wp2
          go_ret
          exact ⟨ret_int HK.out, rfl⟩
end Go.Proofs.Ytpofkkenbepjpaa
