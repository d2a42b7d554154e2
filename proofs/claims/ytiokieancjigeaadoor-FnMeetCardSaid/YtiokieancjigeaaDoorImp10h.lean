/-
  Chapter 10's program, the networks that two ports share: what is proved here is which networks a set's iterator gives, and what MeetIn returns. Condition: lengths up to 2^24, and the table of math/bits holds what the program's text lays.
-/
import Derived.Test.YtiokieancjigeaaDoorImp10f
import Derived.Test.YtiokieancjigeaaDoorImp10d
import Derived.Test.YtiokieancjigeaaDoorTz
import Derived.RangeFuncBox
import Derived.RangeFuncLeaves
import Derived.Shelf.Abstract
import Derived.WalkKit
import Derived.OwnWalkIn
import Derived.TacticsInMore
import Derived.LoopNIn
import Derived.LoopIn
import Derived.Maps.AppendAt
namespace Go.Proofs.YtiokieancjigeaaDoor
open Go.RowKit Go.Shelf

attribute [local go_sem] Oper.semAt_some

theorem TzIn.belN {w w' : World} {n : Nat} (h : TzIn w) (hn : 1 < n) (hb : Below n w w') : TzIn w' := by
  obtain ⟨t, fr, h⟩ := h
  exact ⟨t, fr, (hb.block _ hn).trans h⟩
theorem nets_len (S : Nat) : (netsL S).length ≤ 10 := by
  unfold netsL
  rw [List.length_map]
  exact Nat.le_trans (List.length_filter_le _ _) (by simp)
theorem nets_meet {p q : Port} (hp : pOk p) (hq : pOk q) : netsL (pset p &&& pset q) = meetTo p q 10 := by
  have key : ∀ n : Nat, ((List.range n).filter (fun v => (pset p &&& pset q).testBit v)).map Int.ofNat = meetTo p q n := by
    intro n
    induction n with
    | zero => rfl
    | succ n ih =>
      rw [List.range_succ, List.filter_append, List.map_append, ih]
      rw [show meetTo p q (n + 1) = meetTo p q n ++ (if bothB p q (n : Int) = true then [(n : Int)] else []) from rfl]
      congr 1
      rw [List.filter_cons, Nat.testBit_and, pset_bit hp, pset_bit hq]
      unfold bothB
      split <;> rfl
  exact key 10
theorem less_bits' {S : Nat} (h : S < 1024) (h0 : S ≠ 0) : bits .and .u64 (S : Int) ((S : Int) - 1) = (lessOne S : Int) := by
  have key : ∀ S : Fin 1024, S.val ≠ 0 → bits .and .u64 (S.val : Int) ((S.val : Int) - 1) = (lessOne S.val : Int) := by decide +kernel
  exact key ⟨S, h⟩ h0

set_option maxRecDepth 100000 in
set_option maxHeartbeats 4000000 in
theorem sets_any (m : Nat) (hm : 1 ≤ m) (l n₀ B1 S : Nat) (hS : S < 1024) (hn₀ : 1 < n₀) (J Jx : List Int → World → Prop)
    (hY : ∀ pre x W, J pre W → pre.length < 10 → YieldAt Fence.wide (m - 1) Tryd.prog l #[.int .i64 x] W fun e W' =>
      (e = .returned (.bool true) ∧ J (pre ++ [x]) W' ∧ Below n₀ W W') ∨ (e = .returned (.bool false) ∧ Jx (pre ++ [x]) W'))
    (W : World) (hT : TzIn W) (hb1 : W.heap[B1]? = some (.cells #[.int .u64 (S : Int)] 59 (0, 0))) (h0 : J [] W) :
    CallsIn Fence.wide m Tryd.prog 39 #[.func (.yield l) #[] #[], .pointer (some ⟨B1, 0, none⟩)] W fun e W' => (∃ v, e = .returned v) ∧
      ((∃ ys, ys = netsL S ∧ J ys W') ∨ (∃ pre, True ∧ Jx pre W')) := by
  have k0 := cell1K hb1
  have HT := Lib.hid hT
  clear hT
  refine callsIn_of_wp Tryd.func39 rfl trivial ?_ rfl
  simp only [Tryd.ntmps39, List.size_toArray, List.length_cons, List.length_nil, Nat.reduceAdd, Nat.reduceSub, Array.replicate_succ, Array.replicate_zero, List.push_toArray, List.append_toArray, List.nil_append, List.cons_append]
  gi_wp2
  clear k0 hb1
  gi_loopw [3] (fun i wr => ∃ (pre : List Int) (s : Nat), s < 1024 ∧ i = .int .u64 (s : Int) ∧ pre ++ netsL s = netsL S ∧ J pre wr ∧ Below n₀ W wr) (fun i _ => (intOf i).toNat)
  case atStart => exact ⟨[], S, hS, rfl, rfl, h0, Below.refl _ _⟩
  case round =>
    obtain ⟨pre, s, hs, rfl, hpre, hJ, hB⟩ := hrel
    by_cases hz : s = 0
    · have zB : ((s : Int) != 0) = false := by simp [hz]
      have hy : pre = netsL S := by rw [← hpre, hz, show netsL 0 = [] by decide +kernel, List.append_nil]
      clear hz
      gi_wp2
      go_end0
      exact ⟨⟨_, rfl⟩, .inl ⟨_, hy, hJ⟩⟩
    · have zB : ((s : Int) != 0) = true := by simp [hz]
      obtain ⟨hs1, hs2, hs3⟩ := nets_step hs hz
      have hlen : pre.length < 10 := by
        have h1 := congrArg List.length hpre
        rw [List.length_append, hs1, List.length_cons] at h1
        have h2 := nets_len S
        omega
      have hL := less_bits hs hz
      have hL' := less_bits' hs hz
      have C := Lib.hid (tz_any (HT.out.belN hn₀ hB) hs hz)
      have HP := Lib.hid (show (pre ++ [(tz s : Int)]) ++ netsL (lessOne s) = netsL S from by rw [← hpre, hs1, List.append_assoc]; rfl)
      obtain ⟨t, ht⟩ : ∃ t, tz s = t := ⟨_, rfl⟩
      obtain ⟨u, hu⟩ : ∃ u, lessOne s = u := ⟨_, rfl⟩
      rw [ht] at C HP
      rw [hu] at hL hL' HP hs2
      clear hpre hs1 ht hu hz
      gi_wp2_with (fail)
      refine ⟨trivial, ?_⟩
      refine (callsIn_wide.2 C.out).mono ?_
      rintro e w2 ⟨rfl, rfl⟩
      obtain ⟨fn, tmps, assign, body, hyy, hR⟩ := hY pre (t : Int) wr hJ hlen
      gi_wp2
      refine hR.mono ?_
      rintro e2 W3 (⟨rfl, hJ3, hk3⟩ | ⟨rfl, hJx3⟩)
      · have hB3 := hB.trans hk3
        gi_wp2
        go_roundw
        case rel => exact ⟨_, u, by omega, rfl, HP.out, hJ3, hB3⟩
        case measure => simp [intOf]; omega
      · gi_wp2
        refine bodyPost_ret (results_none rfl _ _ _) rfl ?_
        exact ⟨⟨_, rfl⟩, .inr ⟨_, trivial, hJx3⟩⟩

theorem sets_stops (m : Nat) (hm : 1 ≤ m) (n₀ B1 S : Nat) (hS : S < 1024) (hn₀ : 1 < n₀) (hB1 : B1 < n₀) (w : World) (hn : n₀ ≤ w.heap.size) (hT : TzIn w) (hb1 : w.heap[B1]? = some (.cells #[.int .u64 (S : Int)] 59 (0, 0))) :
    SeqStopsK Fence.wide m Tryd.prog 39 #[.pointer (some ⟨B1, 0, none⟩)] (fun x : Int => #[Value.int .i64 x]) (Below n₀) (fun ys => ys = netsL S) (fun _ => True) 10 w := fun l J Jx W hW _ _ hY h0 =>
  sets_any m hm l n₀ B1 S hS hn₀ J Jx hY W (hT.belN hn₀ (hW.mono hn)) (((hW.mono hn).block _ hB1).trans hb1) h0

set_option maxRecDepth 100000 in
set_option maxHeartbeats 2000000 in
/-- What an iterator gives, appended to nothing. -/
theorem appendSeq_any (m : Nat) (hm : 3 ≤ m) (gf : Nat) (lb : Array Value) (eg : ∀ args w, (callFunc gf args).run Tryd.prog w = .ok (.enter gf args) w) (S : List Int → Prop) (N : Nat) (hN : N ≤ 1000) (w : World)
    (hseq : SeqStopsK Fence.wide (m - 1) Tryd.prog gf lb (fun x : Int => #[Value.int .i64 x]) (Below w.heap.size) S (fun _ => True) N w) :
    CallsIn Fence.wide m Tryd.prog 38 #[.slice none 0 0, .func (.func gf) #[] lb] w fun e W' => ∃ v xs, e = .returned v ∧ S xs ∧ W'.ownsRow w.heap.size 3 1 v xs.length (ints .i64 xs) ∧ Below w.heap.size w W' := by
  have h1 : 1 ≤ m := by omega
  obtain ⟨i0, hi, hz0, hz1, hz2⟩ := info_parts Tryd.infoInt
  refine callsIn_of_wp_marks Tryd.func38 rfl trivial ?_ rfl
  simp only [Tryd.ntmps38, List.size_toArray, List.length_cons, List.length_nil, Nat.reduceAdd, Nat.reduceSub, Array.replicate_succ, Array.replicate_zero, List.push_toArray, List.append_toArray, List.nil_append, List.cons_append]
  gi_wp2
  have bO := Boxed.new w 26 (.slice none 0 0)
  have hB0 : Below w.heap.size w (w.alloc (.cells #[.slice none 0 0] 26)) := (Below.refl _ w).alloc (Nat.le_refl _) _
  refine wpIn_rangeFunc_ownG rfl h1 (gf := gf) (lb := lb) rfl trivial eg hseq belowK_t (belowK_b (by simp)) hB0 (fun _ => rfl)
    (fun pre W => (∃ v, Boxed W w.heap.size 26 v ∧ W.ownsRow w.heap.size 3 1 v pre.length (ints .i64 pre) ∧ True) ∧ Below w.heap.size w W)
    (fun _ _ _ => False)
    (OwnFrom.and (Go.Own.from (holdsRow_own w.heap.size w.heap.size 26 3 1 (fun pre : List Int => pre.length) (fun pre => ints .i64 pre) (fun _ _ => True)) _) (ownFrom_below (Nat.le_refl _) (by simp)))
    (fun _ _ _ _ _ hs _ _ => hs)
    ⟨⟨_, bO, World.ownsRow_nil _ _ _ _, trivial⟩, hB0⟩
    (fun x => { tmps := #[.slice none 0 0, .func (.func gf) #[] lb, .pointer (some ⟨w.heap.size, 0, none⟩), undef, .slice none 0 0, .int .i64 x, .func (.func gf) #[] lb, .int .i64 x, undef, undef, undef, undef, undef], defers := [] }) ?assign ?body ?done ?stop
  case assign =>
    intro l x W K hK
    gi_wp2
    exact hK
  case body =>
    rintro l pre x W ⟨⟨v, hv, hrow, _⟩, hB⟩ hlt
    have hc := hv.cell
    gi_wp2_with (gi_at_builtin; refine wpListIn_append_own _ rfl _ _ 26 rfl w.heap.size 3 i0 (.int .i64 0) 1 8 Tryd.underlying26 hi hz0 hz1 hz2 rfl (by decide) _ _ _ rfl (hrow.alloc _) ⟨W.heap.size, 0, none⟩ 1 1 [.int .i64 x] rfl rfl (cell_one_new _ _ _) (by simp [Value.oneCell']) (by unfold maxLen; omega) (by omega) (by have := hB.size; simp; omega) ?_; intro v' w1 hown' hgrow _; obtain ⟨g', cap', rfl⟩ := ownsRow_succ hown'; obtain ⟨hv1, hv2, hr2, hk2, hb2⟩ := hv.appended (by decide) hrow hB.size (Nat.le_refl _) hown' hgrow; have hc1 := hv1.cell; have hf1 := hv1.frozen)
    exact ⟨hk2.from _, hb2, ⟨_, hv2, by rw [List.length_append, ints_app]; exact hr2, trivial⟩, hB.trans hb2⟩
  case done =>
    rintro D ys W hD hS ⟨⟨v, hv, hrow, _⟩, hB⟩ hK
    have hc := hv.cell
    gi_wp2
    refine ⟨by simp, .inl ⟨_, _, rfl, run_takeDeferred hK, ?_⟩⟩
    exact ⟨_, results_tmp rfl _ _ _, v, ys, rfl, hS, ownsRow_putObj hrow _ hK rfl, hB.trans (belowK_b (w := w) (Nat.le_refl _) W D _ _ (by simp at hD; omega) hK rfl rfl)⟩
  case stop =>
    rintro D c pre W _ _ h _
    exact h.elim

theorem collect_any (gf : Nat) (lb : Array Value) (eg : ∀ args w, (callFunc gf args).run Tryd.prog w = .ok (.enter gf args) w) (S : List Int → Prop) (N : Nat) (hN : N ≤ 1000) (w : World)
    (hseq : ∀ m, 1 ≤ m → SeqStopsK Fence.wide m Tryd.prog gf lb (fun x : Int => #[Value.int .i64 x]) (Below w.heap.size) S (fun _ => True) N w) :
    Calls Tryd.prog 25 #[.func (.func gf) #[] lb] w fun e W' => ∃ A' n' c' xs, e = .returned (.slice A' n' c') ∧ S xs ∧ Own W' w.heap.size 3 A' n' c' (ints .i64 xs) ∧ Below w.heap.size w W' := by
  have C := Lib.hid (callsIn_wide.1 (appendSeq_any 5 (by decide) gf lb eg S N hN w (hseq 4 (by decide))))
  go_enter Tryd.func25, Tryd.ntmps25
  go_wp2_with (go_at_call 38; refine C.out.mono ?_; rintro e w' ⟨v, xs, rfl, hS, hrow, hB⟩)
  go_ret
  rcases hrow.2 with ⟨rfl, h0⟩ | ⟨g, cap, cur, rfl, _⟩
  · exact ⟨none, 0, 0, xs, rfl, hS, by rw [h0] at hrow; exact hrow, hB⟩
  · exact ⟨_, _, _, xs, rfl, hS, hrow, hB⟩


theorem all_any {S : Nat} (w : World) :
    Calls Tryd.prog 27 #[.int .u64 (S : Int)] w fun e w' =>
      e = .returned (.func (.func 39) #[] #[.pointer (some ⟨w.heap.size, 0, none⟩)]) ∧ w' = w.alloc (.cells #[.int .u64 (S : Int)] 59) := by
  go_enter Tryd.func27, Tryd.ntmps27
  go_wp2
  go_ret
  exact ⟨rfl, rfl⟩
theorem collect_set {S : Nat} (w : World) (hT : TzIn w) (hS : S < 1024) :
    Calls Tryd.prog 25 #[.func (.func 39) #[] #[.pointer (some ⟨w.heap.size, 0, none⟩)]] (w.alloc (.cells #[.int .u64 (S : Int)] 59)) fun e w' =>
      ∃ A' n' c', e = .returned (.slice A' n' c') ∧ Own w' w.heap.size 3 A' n' c' (ints .i64 (netsL S)) ∧ Below w.heap.size w w' := by
  have hlt := hT.lt
  have BA := below_allocP w (.cells #[.int .u64 (S : Int)] 59)
  have hWn := heap_alloc_new w (.cells #[.int .u64 (S : Int)] 59)
  have hsz : (w.alloc (.cells #[.int .u64 (S : Int)] 59)).heap.size = w.heap.size + 1 := by simp
  refine (collect_any 39 _ (fun args w => by kernel_rfl) (fun ys => ys = netsL S) 10 (by decide) _ (fun m hm => sets_stops m hm _ w.heap.size S hS (by omega) (by omega) _ (Nat.le_refl _) (hT.bel BA) hWn)).mono ?_
  rintro e w' ⟨A', n', c', xs, rfl, rfl, hO, hB⟩
  exact ⟨A', n', c', rfl, hO.mono (by omega), bel_trans BA hB⟩

set_option maxRecDepth 100000 in
set_option maxHeartbeats 8000000 in
theorem implMeetIn_r {A : Option Addr} {n c : Nat} {ps : List Port} {a b : Int} {w : World} {r : List Int} (hT : TzIn w) (h : HasP w A n ps) (hn : n ≤ 16777216) (hl : LenP ps) (hr : meetI ps a b = r) :
    Calls Tryd.prog 6 #[.slice A n c, .int .i64 a, .int .i64 b] w fun e w' => ∃ A' n' c', e = .returned (.slice A' n' c') ∧ Own w' w.heap.size 3 A' n' c' (ints .i64 r) ∧ Below w.heap.size w w' := by
  have HL := Lib.hid h.1
  have HR := Lib.hid hr
  have HT := Lib.hid hT
  clear hr hT
  by_cases hok : psOk ps
  rotate_left
  · have HE := Lib.hid (show meetI ps a b = [] from by unfold meetI; rw [if_neg (fun hh => hok hh.1)])
    have C := Lib.hid (vlanBridgeOf_no (c := c) h hn hl hok)
    clear hok
    go_enter Tryd.func6, Tryd.ntmps6
    go_wp2_with (fail)
    refine C.out.mono ?_
    rintro e w1 ⟨rfl, B1⟩
    go_wp2
    go_ret
    exact ⟨_, _, _, rfl, by rw [← HR.out, HE.out]; exact World.ownsRow_nil _ _ _ _, B1⟩
  have C := Lib.hid (vlanBridgeOf_yes (c := c) h hl hok)
  by_cases ha : 0 ≤ a ∧ a < (n : Int)
  rotate_left
  · have HE := Lib.hid (show meetI ps a b = [] from by unfold meetI; rw [if_neg (fun hh => ha (by have h1 := hh.2.1; have h2 := HL.out; omega))])
    have C1 := Lib.hid (fun W => isPort_no (a := a) (b := (n : Int)) W ha)
    clear hok ha
    go_enter Tryd.func6, Tryd.ntmps6
    go_wp2_with (fail)
    refine C.out.mono ?_
    rintro e w1 ⟨rfl, _, B1⟩
    go_wp2_with (fail)
    refine (C1.out _).mono ?_
    rintro e w' ⟨rfl, rfl⟩
    go_wp2
    go_ret
    exact ⟨_, _, _, rfl, by rw [← HR.out, HE.out]; exact World.ownsRow_nil _ _ _ _, B1⟩
  have C1 := Lib.hid (fun W => isPort_yes (a := a) (b := (n : Int)) W ha)
  by_cases hb : 0 ≤ b ∧ b < (n : Int)
  rotate_left
  · have HE := Lib.hid (show meetI ps a b = [] from by unfold meetI; rw [if_neg (fun hh => hb (by have h1 := hh.2.2; have h2 := HL.out; omega))])
    have C2 := Lib.hid (fun W => isPort_no (a := b) (b := (n : Int)) W hb)
    clear hok ha hb
    go_enter Tryd.func6, Tryd.ntmps6
    go_wp2_with (fail)
    refine C.out.mono ?_
    rintro e w1 ⟨rfl, _, B1⟩
    go_wp2_with (fail)
    refine (C1.out _).mono ?_
    rintro e w' ⟨rfl, rfl⟩
    go_wp2_with (fail)
    refine (C2.out _).mono ?_
    rintro e w' ⟨rfl, rfl⟩
    go_wp2
    go_ret
    exact ⟨_, _, _, rfl, by rw [← HR.out, HE.out]; exact World.ownsRow_nil _ _ _ _, B1⟩
  have C2 := Lib.hid (fun W => isPort_yes (a := b) (b := (n : Int)) W hb)
  obtain ⟨a', rfl⟩ := Int.eq_ofNat_of_zero_le ha.1
  obtain ⟨b', rfl⟩ := Int.eq_ofNat_of_zero_le hb.1
  have hla : a' < n := by omega
  have hlb : b' < n := by omega
  have HOK := Lib.hid hok
  have okA := Lib.hid (dp_ok hok (show a' < ps.length by have := HL.out; omega))
  have okB := Lib.hid (dp_ok hok (show b' < ps.length by have := HL.out; omega))
  have HE := Lib.hid (show netsL (pset (dp ps a') &&& pset (dp ps b')) = r from by rw [nets_meet okA.out okB.out, ← meetI_dp hok (by have := HL.out; omega) (by have := HL.out; omega)]; exact HR.out)
  have HS := Lib.hid (show pset (dp ps a') &&& pset (dp ps b') < 1024 from Nat.lt_of_le_of_lt Nat.and_le_left (pset_lt okA.out))
  clear ha hb hok
  go_enter Tryd.func6, Tryd.ntmps6
  go_wp2_with (fail)
  refine C.out.mono ?_
  rintro e w1 ⟨rfl, OB, B1⟩
  go_wp2_with (fail)
  refine (C1.out _).mono ?_
  rintro e w' ⟨rfl, rfl⟩
  go_wp2_with (fail)
  refine (C2.out _).mono ?_
  rintro e w' ⟨rfl, rfl⟩
  have CS := Lib.hid (shared_r (c := n) OB.has HOK.out hla hlb)
  obtain ⟨S, hS⟩ : ∃ S, pset (dp ps a') &&& pset (dp ps b') = S := ⟨_, rfl⟩
  rw [hS] at CS HE HS
  clear hS
  go_wp2_with (fail)
  refine CS.out.mono ?_
  rintro e w2 ⟨rfl, B2⟩
  have C2' := bel_trans B1 B2
  go_wp2_with (fail)
  refine (all_any (S := S) w2).mono ?_
  rintro e w3 ⟨rfl, rfl⟩
  go_wp2_with (fail)
  refine (collect_set w2 (HT.out.bel C2') HS.out).mono ?_
  rintro e w4 ⟨A', n', c', rfl, O4, B4⟩
  go_wp2
  go_ret
  exact ⟨_, _, _, rfl, by rw [← HE.out]; exact O4.mono C2'.size, bel_trans C2' B4⟩
end Go.Proofs.YtiokieancjigeaaDoor
