/-
  Chapter 12's program, the order in turn: what is proved here is what FairOrder returns, in memory of its own. Condition: lengths up to 2^24.
-/
import Derived.Test.YtpofkkenbepjpaaImp12h
namespace Go.Proofs.Ytpofkkenbepjpaa
open Go.RowKit Go.Shelf

theorem flatT_set (hs : List TV) (i : Nat) (h : TV) : flatT (hs.set i h) = (((flatT hs).set (i * 3) (.int .i64 h.1)).set (i * 3 + 1) (.int .i64 h.2.1)).set (i * 3 + 2) h.2.2 := by
  induction hs generalizing i with
  | nil => rfl
  | cons e ds ih =>
    cases i with
    | zero => simp [flatT]
    | succ i =>
      have e1 : (i + 1) * 3 = i * 3 + 1 + 1 + 1 := by omega
      rw [e1]
      simp [flatT, ih]
theorem flatT_zeros (n : Nat) : (madeCells (Value.cells (.agg #[.int .i64 0, .int .i64 0, .slice none 0 0])) (n * 3)).toList = flatT (List.replicate n (0, 0, .slice none 0 0)) := by
  apply List.ext_getElem?
  intro j
  have hl : (flatT (List.replicate n ((0, 0, .slice none 0 0) : TV))).length = n * 3 := by rw [flatT_len]; simp
  by_cases hj : j < n * 3
  · have h0 : (List.replicate n ((0, 0, .slice none 0 0) : TV))[j / 3]? = some (0, 0, .slice none 0 0) := by rw [List.getElem?_replicate, if_pos (by omega)]
    obtain ⟨a0, a1, a2⟩ := flatT_at _ _ _ h0
    have h3 : j % 3 = 0 ∨ j % 3 = 1 ∨ j % 3 = 2 := by omega
    rcases h3 with h3 | h3 | h3
    · rw [show j / 3 * 3 = j by omega] at a0; rw [a0]; simp [madeCells, hj, h3, Value.cells]
    · rw [show j / 3 * 3 + 1 = j by omega] at a1; rw [a1]; simp [madeCells, hj, h3, Value.cells]
    · rw [show j / 3 * 3 + 2 = j by omega] at a2; rw [a2]; simp [madeCells, hj, h3, Value.cells]
  · have hnone := List.getElem?_eq_none (l := flatT (List.replicate n ((0, 0, .slice none 0 0) : TV))) (i := j) (by rw [hl]; omega)
    rw [hnone]
    simp [madeCells, hj]


theorem order_mem (m : Nat) (hm : 1 ≤ m) {B1 g0 n c N : Nat} {tvs0 : List TV} {tcs0 : List TC} {T : List Int} {w : World} (hbox : w.heap[B1]? = some (.cells #[.slice (some ⟨g0, 0, none⟩) n c] 58 (0, 0)))
    (hR0 : RingAt w g0 0 n c tvs0) (hRL0 : RingL w w.heap.size tvs0 tcs0) (hok0 : ringOk tcs0) (h0n : 0 < n) (hn : n ≤ 4) (hT : ringRun (needL tcs0) tcs0 = T) (hN : T.length ≤ N) :
    SeqMem Fence.wide m Try.prog 66 #[.pointer (some ⟨B1, 0, none⟩)] (fun x : Int => #[Value.int .i64 x]) w.heap.size (fun ys => ys = T) N w := fun l J W hW hJ _ hY h0 =>
  order_any m hm l B1 g0 n c w.heap.size N tvs0 tcs0 T w (Nat.le_refl _) hbox (Array.getElem?_eq_some_iff.1 hbox).1 hR0.lt hR0 hRL0 hok0 h0n hn hT hN J W hW hW.size hJ hY h0
theorem order_made {A : Option Addr} {n c : Nat} (w : World) :
    Calls Try.prog 47 #[.slice A n c] w fun e w' => e = .returned (.func (.func 66) #[] #[.pointer (some ⟨w.heap.size, 0, none⟩)]) ∧ w' = w.alloc (.cells #[.slice A n c] 58) := by
  go_enter Try.func47, Try.ntmps47
  go_wp2
  go_ret
  exact ⟨rfl, rfl⟩
theorem ringL_range {w : World} {lo : Nat} (F : Nat → TV) (G : Nat → TC) : ∀ n, (∀ c, c < n → TvTc w lo (F c) (G c)) → RingL w lo ((List.range n).map F) ((List.range n).map G)
  | 0, _ => .nil
  | n + 1, h => by
    rw [List.range_succ, List.map_append, List.map_append]
    exact (ringL_range F G n (fun c hc => h c (by omega))).snoc (h n (by omega))
/-- The ring, its first k classes laid. -/
def tvAt (ws : List Int) (vs : List Value) (c : Nat) : TV := (9 * dw ws c, 0, vs.getD c (.slice none 0 0))
def tvsTo (ws : List Int) (vs : List Value) (n k : Nat) : List TV := (List.range k).map (tvAt ws vs) ++ List.replicate (n - k) (0, 0, .slice none 0 0)
theorem tvsTo_succ (ws : List Int) (vs : List Value) {n k : Nat} (h : k < n) : tvsTo ws vs n (k + 1) = (tvsTo ws vs n k).set k (tvAt ws vs k) := by
  unfold tvsTo
  rw [List.range_succ, List.map_append, show n - k = (n - (k + 1)) + 1 by omega, List.replicate_succ]
  apply List.ext_getElem?
  intro i
  by_cases hik : i = k
  · subst hik
    rw [List.getElem?_set_self (by simp)]
    rw [List.append_assoc, List.getElem?_append_right (by simp)]
    simp
  · rw [List.getElem?_set_ne (Ne.symm hik)]
    by_cases hlt : i < k
    · rw [List.append_assoc, List.getElem?_append_left (by simp; exact hlt), List.getElem?_append_left (by simp; exact hlt)]
    · rw [List.getElem?_append_right (by simp; omega), List.getElem?_append_right (by simp; omega)]
      simp only [List.length_append, List.length_map, List.length_range, List.map_cons, List.map_nil, List.length_cons, List.length_nil]
      rw [show i - k = (i - (k + 1)) + 1 by omega, List.getElem?_cons_succ]
theorem OwnVJ.later {w w' : World} {lo g n R : Nat} {vs : List Value} {es : List (List Duo)} (h : OwnVJ w lo g n vs es) (hg : w.grownBy w' (some R)) (hR : R < lo) : OwnVJ w' lo g n vs es := by
  refine ⟨h.1.grown hg (fun a ha e => ?_), h.2.1, fun i v zs hv hz => ?_, h.2.2.2⟩
  · cases ha
    injection e with e
    have e' : g = R := e
    have := h.1.block.1
    omega
  · obtain ⟨B, m, d, rfl, hO⟩ := h.2.2.1 i v zs hv hz
    refine ⟨B, m, d, rfl, World.ownsRow.kept hO hg ?_⟩
    cases hb : (Value.slice B m d).ownBlock with
    | none => exact .inl rfl
    | some b => exact .inr (fun e => by injection e with e; have := (ownD_block hO hb).1; omega)
set_option maxRecDepth 100000 in
set_option maxHeartbeats 8000000 in
theorem implFairOrder_r {A B : Option Addr} {n c m d : Nat} {ws : List Int} {js : List Duo} {w : World} {r : List Int} (h : Has w A n (ints .i64 ws)) (hj : HasD w B m js) (hn : n ≤ 16777216) (hm : m ≤ 16777216) (hr : fairL ws js = r) :
    Calls Try.prog 17 #[.slice A n c, .slice B m d] w fun e w' => ∃ A' n' c', e = .returned (.slice A' n' c') ∧ Own w' w.heap.size 3 A' n' c' (ints .i64 r) ∧ Below w.heap.size w w' := by
  obtain ⟨i0, hi, hz0, hz1, hz2⟩ := info_partsD Try.infoTurnClass
  have HL := Lib.hid h.len
  have HJ := Lib.hid hj.1
  have HR := Lib.hid hr
  clear hr
  by_cases hok : jobsOk ws js
  rotate_left
  · have HE := Lib.hid (show fairL ws js = [] from if_neg hok)
    have C := Lib.hid (implJobsValid_b (c := c) (d := d) h hj hn hm (decide_eq_false hok))
    clear hok
    go_enter Try.func17, Try.ntmps17
    go_wp2_with (fail)
    refine C.out.mono ?_
    rintro e w1 ⟨rfl, B1⟩
    go_wp2
    go_ret
    exact ⟨_, _, _, rfl, by rw [← HR.out, HE.out]; exact World.ownsRow_nil _ _ _ _, B1⟩
  have C := Lib.hid (implJobsValid_b (c := c) (d := d) h hj hn hm (decide_eq_true hok))
  have HK := Lib.hid hok
  have hm60 : m ≤ 60 := by have := hok.2.2; have := HJ.out; omega
  have hn4 : n ≤ 4 := by have := hok.2.1.2.2; have := HL.out; omega
  have hn1 : 1 ≤ n := by have := hok.2.1.2.1; have := HL.out; omega
  have HE := Lib.hid (show ringRun (needL (ring0 ws js)) (ring0 ws js) = r by rw [← HR.out]; unfold fairL; rw [if_pos hok])
  have HF := Lib.hid (show r.length ≤ 60 by rw [← HR.out, fair_len hok, HJ.out]; exact hm60)
  clear hok
  go_enter Try.func17, Try.ntmps17
  go_wp2_with (fail)
  refine C.out.mono ?_
  rintro e w1 ⟨rfl, B1⟩
  have hs1 := B1.size
  go_wp2_with (at_make; refine wpList_make_full _ rfl _ _ 58 rfl w1.heap.size 64 i0 (.agg #[.int .i64 0, .int .i64 0, .slice none 0 0]) 3 Try.underlyingTurnRing hi hz0 hz1 .i64 .i64 _ _ n rfl rfl (by omega) (by omega) (by rw [hz2]; omega) (by unfold maxLen; omega) (Nat.le_refl _) ?_; intro w2 hown hgrow; rw [flatT_zeros] at hown; have B2 : Below w1.heap.size w1 w2 := below_of_grown hgrow (Nat.le_refl _) (fun k hk => by cases hk); clear hgrow)
  refine (linesOf_any (hj.bel (bel_trans B1 B2)) HL.out HK.out).mono ?_
  rintro e w3 ⟨g, vs, rfl, O3, B3⟩
  have hR2 : w1.heap.size < w2.heap.size := (World.ownsRow.lt hown w1.heap.size rfl).2
  have hown3 : w3.ownsRow w1.heap.size 64 3 (.slice (some ⟨w1.heap.size, 0, none⟩) n n) n (flatT (tvsTo ws vs n 0)) := World.ownsRow.kept hown (grown_of_below B3) (.inr (by simp [Value.ownBlock]))
  have B13 := bel_trans (bel_trans B1 B2) B3
  obtain ⟨R, hR⟩ : ∃ R, w1.heap.size = R := ⟨_, rfl⟩
  rw [hR] at hown3 hR2 ⊢
  have hRlo : w.heap.size ≤ R := by omega
  obtain ⟨lo3, hlo3⟩ : ∃ lo3, w2.heap.size = lo3 := ⟨_, rfl⟩
  rw [hlo3] at O3 hR2
  clear hown B1 B2 B3 C hs1 hR hlo3
  go_wp2
  go_loopw [20] (fun t wr => ∃ k : Nat, k ≤ n ∧ t = .int .i64 (k : Int) ∧ wr.ownsRow R 64 3 (.slice (some ⟨R, 0, none⟩) n n) n (flatT (tvsTo ws vs n k)) ∧ OwnVJ wr lo3 g n vs (linesTo js n m) ∧ Below w.heap.size w wr) (fun t _ => n - (intOf t).toNat)
  case atStart => exact ⟨0, Nat.zero_le _, rfl, hown3, O3, B13⟩
  case round =>
    clear hown3 O3 B13
    obtain ⟨k, hk, rfl, OR, OV, BK⟩ := hrel
    have hge := BK.size
    by_cases hlt : k < n
    · have hltB : decide ((k : Int) < (n : Int)) = true := by simp; omega
      obtain ⟨v, hv, hcell, _⟩ := OV.1.at_ hlt
      obtain ⟨X, q, dX, hX, _⟩ := OV.2.2.1 k v _ hv (linesTo_at js n m k hlt)
      subst hX
      obtain ⟨b2, o2, rfl, hbl2, e0⟩ := has_dw (h.bel BK) hlt
      have hdw := dw_ok HK.out.2.1 (show k < ws.length by rw [HL.out]; exact hlt)
      have w9 : IntKind.i64.wrap (9 * dw ws k) = 9 * dw ws k := IntWalk.i64_in _ (by omega)
      obtain ⟨q1, r1⟩ := World.ownsRow.stored OR (k * 3) (.int .i64 (9 * dw ws k))
      obtain ⟨q2, r2⟩ := World.ownsRow.stored q1 (k * 3 + 1) (.int .i64 0)
      obtain ⟨q3, r3⟩ := World.ownsRow.stored q2 (k * 3 + 2) (.slice X q dX)
      have HTV := Lib.hid (show tvAt ws vs k = (9 * dw ws k, 0, .slice X q dX) by unfold tvAt; rw [List.getD_eq_getElem?_getD, hv]; rfl)
      have hset := flatT_set (tvsTo ws vs n k) k (tvAt ws vs k)
      rw [← tvsTo_succ ws vs hlt, HTV.out] at hset
      simp only at hset
      rw [← hset] at q3
      have G3 := gr_trans (gr_trans r1 r2) r3
      have OV2 := OV.later G3 hR2
      have B4 := BK.grown G3 hge (fun k e => by injection e with e; omega)
      have hl := OR.1
      have hcl : ∀ j, j < n * 3 → ∃ u, wr.cell? ⟨R, j, none⟩ = some u := fun j hj => ⟨_, (World.ownsRow.cellAt OR j hj).trans (List.getElem?_eq_getElem (by omega))⟩
      obtain ⟨u0, c0⟩ := hcl (k * 3) (by omega)
      obtain ⟨u1, c1⟩ := hcl (k * 3 + 1) (by omega)
      obtain ⟨u2, c2⟩ := hcl (k * 3 + 2) (by omega)
      have f1 : ∀ j, wr.frozen? ⟨R, j, none⟩ = false := World.ownsRow.frozenAt OR
      generalize dw ws k = x at *
      clear q1 q2 r1 r2 r3 hset G3 hl hcl
      go_wp2
      go_roundw
      case rel => exact ⟨k + 1, by omega, by go_num, q3, OV2, B4⟩
      case measure => simp [intOf]; omega
    · have hltB : decide ((k : Int) < (n : Int)) = false := by simp; omega
      obtain rfl : k = n := by omega
      have HTE := Lib.hid (show tvsTo ws vs k k = (List.range k).map (tvAt ws vs) by unfold tvsTo; rw [Nat.sub_self, List.replicate_zero, List.append_nil])
      rw [HTE.out] at OR
      go_wp2_with (fail)
      refine (order_made wr).mono ?_
      rintro e w5 ⟨rfl, hw5⟩
      have B5 : Below wr.heap.size wr w5 := by rw [hw5]; exact below_allocJ wr _
      have hbox : w5.heap[wr.heap.size]? = some (.cells #[.slice (some ⟨R, 0, none⟩) k k] 58 (0, 0)) := by rw [hw5]; exact heap_alloc_new wr _
      have O5 := OV.bel B5
      have hRw : R < wr.heap.size := (World.ownsRow.lt OR R rfl).2
      have R5 : RingAt w5 R 0 k k ((List.range k).map (tvAt ws vs)) := (ringAt_own OR).keep (B5.block R hRw)
      have hRL : RingL w5 w5.heap.size ((List.range k).map (tvAt ws vs)) (ring0 ws js) := by
        unfold ring0
        rw [HL.out, HJ.out]
        refine ringL_range _ _ k (fun cc hcc => ?_)
        obtain ⟨u, hu, _, _⟩ := O5.1.at_ hcc
        obtain ⟨X, q, dX, rfl, hO⟩ := O5.2.2.1 cc u _ hu (linesTo_at js k m cc hcc)
        refine ⟨rfl, rfl, X, q, dX, by unfold tvAt; rw [List.getD_eq_getElem?_getD, hu]; rfl, hO.has, hO.cap, ?_, fun b o e h0 => by subst e; exact (ownD_block hO (b := b) rfl).2⟩
        have h3 := hO.len
        have h4 : (lineTo js cc m).length = (idxs js cc m).length := by unfold lineTo; simp
        have h5 := idxs_len js cc m
        omega
      have CC := Lib.hid (collect_mem 66 #[.pointer (some ⟨wr.heap.size, 0, none⟩)] (fun args w => by kernel_rfl) (fun ys => ys = r) 60 (by decide) w5 (order_mem 4 (by decide) hbox R5 hRL (ring0_ok HK.out) (by omega) hn4 HE.out HF.out))
      have B15 := BK.trans (B5.mono hge)
      clear OV OR O5 hw5 hbox R5 hRL B5 BK
      go_wp2_with (fail)
      refine CC.out.mono ?_
      rintro e w6 ⟨A', n', c', xs, rfl, rfl, O6, B6⟩
      go_wp2
      go_ret
      exact ⟨_, _, _, rfl, O6.mono B15.size, bel_trans B15 B6⟩
end Go.Proofs.Ytpofkkenbepjpaa
