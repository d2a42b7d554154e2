/-
  Chapter 6's program, the ports of a frame one by one: what is proved here is which ports the bridge's iterator gives, in which order, and that they are collected into memory of their own. Condition: at most 6 ports.
-/
import Derived.Test.YtmnhgghnaklneaaImp6c
import Derived.RangeFuncBox
import Derived.RangeFuncLeaves
import Derived.Shelf.Abstract
import Derived.WalkKit
import Derived.OwnWalkIn
import Derived.TacticsInMore
import Derived.LoopNIn
import Derived.LoopIn
import Derived.Maps.AppendAt
namespace Go.Proofs.Ytmnhgghnaklneaa
open Go.RowKit Go.Shelf

attribute [local go_sem] Oper.semAt_some

/-- What the iterator finds in memory: the bridge, the station, the port. -/
structure Seen (W : World) (n₀ B1 B2 B3 b nn : Nat) (ports to port : Int) (D : DataW Unit) : Prop where
  c1 : W.heap[B1]? = some (.cells #[.int .i64 ports, .map (some b)] 70 (0, 0))
  c2 : W.heap[B2]? = some (.cells #[.int .i64 to] 3 (0, 0))
  c3 : W.heap[B3]? = some (.cells #[.int .i64 port] 3 (0, 0))
  m : W.ownsMap Try.prog 3 (plainElem Try.prog 3) b nn D
  b1 : B1 < n₀
  b2 : B2 < n₀
  b3 : B3 < n₀
  bm : b < n₀
theorem Seen.below {W W' : World} {n₀ B1 B2 B3 b nn : Nat} {ports to port : Int} {D : DataW Unit} (h : Seen W n₀ B1 B2 B3 b nn ports to port D) (hb : Below n₀ W W') : Seen W' n₀ B1 B2 B3 b nn ports to port D :=
  ⟨(hb.block _ h.b1).trans h.c1, (hb.block _ h.b2).trans h.c2, (hb.block _ h.b3).trans h.c3, by
    obtain ⟨es, clock, h1, h2, h3, h4⟩ := h.m
    exact ⟨es, clock, (hb.block _ h.bm).trans h1, h2, h3, h4⟩, h.b1, h.b2, h.b3, h.bm⟩
theorem cell_one {w : World} {B : Nat} {x : Value} {t : TypeId} (h : w.heap[B]? = some (.cells #[x] t (0, 0))) : w.cell? ⟨B, 0, none⟩ = some x :=
  (cell_of_row w B 0 _ t (0, 0) h).trans rfl
/-- Where the map says that a station is. -/
theorem known_map {D : DataW Unit} {ts : List Int} (h : MapOf D (tabF ts)) (ht : ∀ x ∈ ts, -1 ≤ x) {to : Nat} (hto : to ≤ 15) {c : Int} (hc : D.atKey (.int .i64 (to : Int)) (.lit (.int .i64 0)) = .lit (.int .i64 c)) :
    (Maps.has D (.int .i64 (to : Int)) = true → c = knownAt ts (to : Int) ∧ 0 ≤ c) ∧ (Maps.has D (.int .i64 (to : Int)) = false → knownAt ts (to : Int) < 0) := by
  have hkn : to < 15 → knownAt ts (to : Int) = tabF ts to := fun h15 => by unfold knownAt tabF; rw [if_pos (by omega)]; rfl
  constructor
  · intro hh
    obtain ⟨i, hi, he, hn⟩ := h.1 _ hh
    obtain rfl : to = i := by injection he with _ he; omega
    have e1 := hc.symm.trans ((h.2 to hi hn).2 _)
    injection e1 with e1
    injection e1 with _ e1
    refine ⟨by rw [e1, hkn hi], ?_⟩
    rw [e1]
    by_cases hl : to < ts.length
    · have hm : tabF ts to ∈ ts := by unfold tabF; rw [List.getD_eq_getElem?_getD, List.getElem?_eq_getElem hl]; exact List.getElem_mem hl
      have := ht _ hm
      omega
    · exact absurd (by unfold tabF; rw [List.getD_eq_getElem?_getD, List.getElem?_eq_none (by omega)]; rfl) hn
  · intro hh
    by_cases h15 : to < 15
    · rw [hkn h15]
      by_cases hn : tabF ts to = -1
      · omega
      · rw [(h.2 to h15 hn).1] at hh; cases hh
    · unfold knownAt; rw [if_neg (by omega)]; omega

set_option maxRecDepth 100000 in
set_option maxHeartbeats 4000000 in
theorem iter_any (m : Nat) (hm : 1 ≤ m) (l n₀ B1 B2 B3 b nn P to : Nat) (port : Int) (D : DataW Unit) (ts : List Int) (hM : MapOf D (tabF ts)) (ht : ∀ x ∈ ts, -1 ≤ x) (hto : to ≤ 15) (hP : P ≤ 6) (J Jx : List Int → World → Prop)
    (hY : ∀ pre x W, J pre W → pre.length < 6 → YieldAt Fence.wide (m - 1) Try.prog l #[.int .i64 x] W fun e W' =>
      (e = .returned (.bool true) ∧ J (pre ++ [x]) W' ∧ Below n₀ W W') ∨ (e = .returned (.bool false) ∧ Jx (pre ++ [x]) W'))
    (W : World) (hS : Seen W n₀ B1 B2 B3 b nn (P : Int) (to : Int) port D) (h0 : J [] W) :
    CallsIn Fence.wide m Try.prog 71 #[.func (.yield l) #[] #[], .pointer (some ⟨B1, 0, none⟩), .pointer (some ⟨B2, 0, none⟩), .pointer (some ⟨B3, 0, none⟩)] W fun e W' => (∃ v, e = .returned v) ∧
      ((∃ ys, ys = portsTo (knownAt ts (to : Int)) port P ∧ J ys W') ∨ (∃ pre, True ∧ Jx pre W')) := by
  obtain ⟨k0, k1, _, _⟩ := two_cells hS.c1
  have k2 := cell_one hS.c2
  have hkey : keyOf Try.prog 3 (.int .i64 (to : Int)) = some (.int .i64 (to : Int)) := Maps.keyOf_int_mk Try.underlying3 (i64_wf (by omega))
  have hown := hS.m
  refine callsIn_of_wp Try.func71 rfl trivial ?_ rfl
  simp only [Try.ntmps71, List.size_toArray, List.length_cons, List.length_nil, Nat.reduceAdd, Nat.reduceSub, Array.replicate_succ, Array.replicate_zero, List.push_toArray, List.append_toArray, List.nil_append, List.cons_append]
  gi_wp2_with (gi_at_lookup; refine wpListIn_lookup_own_ok_int _ rfl _ _ 68 rfl 3 3 .i64 keyInt Try.underlying68 Try.underlying3 (Try.zeroValue3 _) b nn D rfl hown _ _ rfl hkey ?_; intro c hat hwc; obtain ⟨q1, q2⟩ := known_map hM ht hto hat; generalize Maps.has D (.int .i64 (to : Int)) = kb at q1 q2 ⊢; have Q1 := Lib.hid q1; have Q2 := Lib.hid q2; clear q1 q2 hat hwc hown)
  clear k0 k1 k2
  gi_loopw [17] (fun i wr => ∃ p : Nat, p ≤ P ∧ i = .int .i64 (p : Int) ∧ J (portsTo (knownAt ts (to : Int)) port p) wr ∧ Below n₀ W wr) (fun i _ => P - (intOf i).toNat)
  case atStart => exact ⟨0, Nat.zero_le _, rfl, h0, Below.refl _ _⟩
  case round =>
    obtain ⟨p, hp, rfl, hJ, hB⟩ := hrel
    by_cases hlt : p < P
    · have hltB : decide ((p : Int) < (P : Int)) = true := by simp; omega
      have k3 := cell_one ((hB.block _ hS.b3).trans hS.c3)
      have HS := Lib.hid (portsTo_snoc (knownAt ts (to : Int)) port p)
      have hlen := portsTo_len (knownAt ts (to : Int)) port p
      by_cases hpp : (p : Int) = port
      · have e1 : ((p : Int) == port) = true := by simp [hpp]
        have HS2 := Lib.hid (HS.out.trans (by rw [if_neg (fun hh => hh.1 hpp), List.append_nil]))
        clear hpp hlen
        gi_wp2
        go_roundw
        case rel => exact ⟨p + 1, by omega, by go_num, by rw [HS2.out]; exact hJ, hB⟩
        case measure => simp [intOf]; omega
      · have e1 : ((p : Int) == port) = false := by simp [hpp]
        cases kb with
        | false =>
          have HS2 := Lib.hid (HS.out.trans (by rw [if_pos (show goesTo (knownAt ts (to : Int)) port p from ⟨hpp, .inl (Q2.out rfl)⟩)]))
          clear hpp
          obtain ⟨fn, tmps, assign, body, hy, hR⟩ := hY (portsTo (knownAt ts (to : Int)) port p) (p : Int) wr hJ (by omega)
          gi_wp2
          refine hR.mono ?_
          rintro e W3 (⟨rfl, hJ3, hk3⟩ | ⟨rfl, hJx3⟩)
          · gi_wp2
            go_roundw
            case rel => exact ⟨p + 1, by omega, by go_num, by rw [HS2.out]; exact hJ3, hB.trans hk3⟩
            case measure => simp [intOf]; omega
          · gi_wp2
            refine bodyPost_ret (results_none rfl _ _ _) rfl ?_
            exact ⟨⟨_, rfl⟩, .inr ⟨_, trivial, hJx3⟩⟩
        | true =>
          obtain ⟨hc1, hc2⟩ := Q1.out rfl
          by_cases hcp : (p : Int) = c
          · have e2 : ((p : Int) != c) = false := by simp [hcp]
            have HS2 := Lib.hid (HS.out.trans (by rw [if_pos (show goesTo (knownAt ts (to : Int)) port p from ⟨hpp, .inr (by rw [← hc1, hcp])⟩)]))
            clear hpp hc1 hcp
            obtain ⟨fn, tmps, assign, body, hy, hR⟩ := hY (portsTo (knownAt ts (to : Int)) port p) (p : Int) wr hJ (by omega)
            gi_wp2
            refine hR.mono ?_
            rintro e W3 (⟨rfl, hJ3, hk3⟩ | ⟨rfl, hJx3⟩)
            · gi_wp2
              go_roundw
              case rel => exact ⟨p + 1, by omega, by go_num, by rw [HS2.out]; exact hJ3, hB.trans hk3⟩
              case measure => simp [intOf]; omega
            · gi_wp2
              refine bodyPost_ret (results_none rfl _ _ _) rfl ?_
              exact ⟨⟨_, rfl⟩, .inr ⟨_, trivial, hJx3⟩⟩
          · have e2 : ((p : Int) != c) = true := by simp [hcp]
            have HS2 := Lib.hid (HS.out.trans (by rw [if_neg (show ¬ goesTo (knownAt ts (to : Int)) port p from fun hh => by have := hh.2; omega), List.append_nil]))
            clear hpp hc1 hcp hlen
            gi_wp2
            go_roundw
            case rel => exact ⟨p + 1, by omega, by go_num, by rw [HS2.out]; exact hJ, hB⟩
            case measure => simp [intOf]; omega
    · have hltB : decide ((p : Int) < (P : Int)) = false := by simp; omega
      obtain rfl : p = P := by omega
      gi_wp2
      go_end0
      exact ⟨⟨_, rfl⟩, .inl ⟨_, rfl, hJ⟩⟩

theorem iter_stops (m : Nat) (hm : 1 ≤ m) (n₀ B1 B2 B3 b nn P to : Nat) (port : Int) (D : DataW Unit) (ts : List Int) (hM : MapOf D (tabF ts)) (ht : ∀ x ∈ ts, -1 ≤ x) (hto : to ≤ 15) (hP : P ≤ 6) (w : World) (hn : n₀ ≤ w.heap.size) (hS : Seen w n₀ B1 B2 B3 b nn (P : Int) (to : Int) port D) :
    SeqStopsK Fence.wide m Try.prog 71 #[.pointer (some ⟨B1, 0, none⟩), .pointer (some ⟨B2, 0, none⟩), .pointer (some ⟨B3, 0, none⟩)] (fun x : Int => #[Value.int .i64 x]) (Below n₀) (fun ys => ys = portsTo (knownAt ts (to : Int)) port P) (fun _ => True) 6 w := fun l J Jx W hW _ _ hY h0 =>
  iter_any m hm l n₀ B1 B2 B3 b nn P to port D ts hM ht hto hP J Jx hY W (hS.below (hW.mono hn)) h0

set_option maxRecDepth 100000 in
set_option maxHeartbeats 2000000 in
/-- What an iterator gives, appended to nothing. -/
theorem appendSeq_any (m : Nat) (hm : 3 ≤ m) (gf : Nat) (lb : Array Value) (eg : ∀ args w, (callFunc gf args).run Try.prog w = .ok (.enter gf args) w) (S : List Int → Prop) (N : Nat) (hN : N ≤ 1000) (w : World)
    (hseq : SeqStopsK Fence.wide (m - 1) Try.prog gf lb (fun x : Int => #[Value.int .i64 x]) (Below w.heap.size) S (fun _ => True) N w) :
    CallsIn Fence.wide m Try.prog 70 #[.slice none 0 0, .func (.func gf) #[] lb] w fun e W' => ∃ v xs, e = .returned v ∧ S xs ∧ W'.ownsRow w.heap.size 3 1 v xs.length (ints .i64 xs) ∧ Below w.heap.size w W' := by
  have h1 : 1 ≤ m := by omega
  obtain ⟨i0, hi, hz0, hz1, hz2⟩ := info_parts Try.infoInt
  refine callsIn_of_wp_marks Try.func70 rfl trivial ?_ rfl
  simp only [Try.ntmps70, List.size_toArray, List.length_cons, List.length_nil, Nat.reduceAdd, Nat.reduceSub, Array.replicate_succ, Array.replicate_zero, List.push_toArray, List.append_toArray, List.nil_append, List.cons_append]
  gi_wp2
  have bO := Boxed.new w 23 (.slice none 0 0)
  have hB0 : Below w.heap.size w (w.alloc (.cells #[.slice none 0 0] 23)) := (Below.refl _ w).alloc (Nat.le_refl _) _
  refine wpIn_rangeFunc_ownG rfl h1 (gf := gf) (lb := lb) rfl trivial eg hseq belowK_t (belowK_b (by simp)) hB0 (fun _ => rfl)
    (fun pre W => (∃ v, Boxed W w.heap.size 23 v ∧ W.ownsRow w.heap.size 3 1 v pre.length (ints .i64 pre) ∧ True) ∧ Below w.heap.size w W)
    (fun _ _ _ => False)
    (OwnFrom.and (Go.Own.from (holdsRow_own w.heap.size w.heap.size 23 3 1 (fun pre : List Int => pre.length) (fun pre => ints .i64 pre) (fun _ _ => True)) _) (ownFrom_below (Nat.le_refl _) (by simp)))
    (fun _ _ _ _ _ hs _ _ => hs)
    ⟨⟨_, bO, World.ownsRow_nil _ _ _ _, trivial⟩, hB0⟩
    (fun x => { tmps := #[.slice none 0 0, .func (.func gf) #[] lb, .pointer (some ⟨w.heap.size, 0, none⟩), undef, .slice none 0 0, .int .i64 x, .func (.func gf) #[] lb, .int .i64 x, undef, undef, undef, undef, undef], defers := [] }) ?assign ?body ?done ?stop
  case assign =>
    intro l x W K hK
    gi_wp2
    exact hK
  case body =>
    rintro l pre x W ⟨⟨v, hv, hrow, _⟩, hB⟩ hlt
    have hc := hv.cell
    gi_wp2_with (gi_at_builtin; refine wpListIn_append_own _ rfl _ _ 23 rfl w.heap.size 3 i0 (.int .i64 0) 1 8 Try.underlying23 hi hz0 hz1 hz2 rfl (by decide) _ _ _ rfl (hrow.alloc _) ⟨W.heap.size, 0, none⟩ 1 1 [.int .i64 x] rfl rfl (cell_one_new _ _ _) (by simp [Value.oneCell']) (by unfold maxLen; omega) (by omega) (by have := hB.size; simp; omega) ?_; intro v' w1 hown' hgrow _; obtain ⟨g', cap', rfl⟩ := ownsRow_succ hown'; obtain ⟨hv1, hv2, hr2, hk2, hb2⟩ := hv.appended (by decide) hrow hB.size (Nat.le_refl _) hown' hgrow; have hc1 := hv1.cell; have hf1 := hv1.frozen)
    exact ⟨hk2.from _, hb2, ⟨_, hv2, by rw [List.length_append, ints_app]; exact hr2, trivial⟩, hB.trans hb2⟩
  case done =>
    rintro D ys W hD hS ⟨⟨v, hv, hrow, _⟩, hB⟩ hK
    have hc := hv.cell
    gi_wp2
    refine ⟨by simp, .inl ⟨_, _, rfl, run_takeDeferred hK, ?_⟩⟩
    exact ⟨_, results_tmp rfl _ _ _, v, ys, rfl, hS, ownsRow_putObj hrow _ hK rfl, hB.trans (belowK_b (w := w) (Nat.le_refl _) W D _ _ (by simp at hD; omega) hK rfl rfl)⟩
  case stop =>
    rintro D c pre W _ _ h _
    exact h.elim

theorem collect_any (gf : Nat) (lb : Array Value) (eg : ∀ args w, (callFunc gf args).run Try.prog w = .ok (.enter gf args) w) (S : List Int → Prop) (N : Nat) (hN : N ≤ 1000) (w : World)
    (hseq : ∀ m, 1 ≤ m → SeqStopsK Fence.wide m Try.prog gf lb (fun x : Int => #[Value.int .i64 x]) (Below w.heap.size) S (fun _ => True) N w) :
    Calls Try.prog 60 #[.func (.func gf) #[] lb] w fun e W' => ∃ A' n' c' xs, e = .returned (.slice A' n' c') ∧ S xs ∧ Own W' w.heap.size 3 A' n' c' (ints .i64 xs) ∧ Below w.heap.size w W' := by
  have C := Lib.hid (callsIn_wide.1 (appendSeq_any 5 (by decide) gf lb eg S N hN w (hseq 4 (by decide))))
  go_enter Try.func60, Try.ntmps60
  go_wp2_with (go_at_call 70; refine C.out.mono ?_; rintro e w' ⟨v, xs, rfl, hS, hrow, hB⟩)
  go_ret
  rcases hrow.2 with ⟨rfl, h0⟩ | ⟨g, cap, cur, rfl, _⟩
  · exact ⟨none, 0, 0, xs, rfl, hS, by rw [h0] at hrow; exact hrow, hB⟩
  · exact ⟨_, _, _, xs, rfl, hS, hrow, hB⟩

/-- A bridge's iterator, as it is made. -/
theorem portsFor_any {b : Nat} {ports to port : Int} (w : World) :
    Calls Try.prog 61 #[.agg #[.int .i64 ports, .map (some b)], .int .i64 to, .int .i64 port] w fun e w' =>
      e = .returned (.func (.func 71) #[] #[.pointer (some ⟨w.heap.size, 0, none⟩), .pointer (some ⟨w.heap.size + 1, 0, none⟩), .pointer (some ⟨w.heap.size + 2, 0, none⟩)]) ∧
      w' = ((w.alloc (.cells #[.int .i64 ports, .map (some b)] 70)).alloc (.cells #[.int .i64 to] 3)).alloc (.cells #[.int .i64 port] 3) := by
  go_enter Try.func61, Try.ntmps61
  go_wp2
  go_ret
  exact ⟨rfl, rfl⟩
/-- What the made iterator finds. -/
theorem seen_made {lo b nn : Nat} {P to : Nat} {port : Int} {ts : List Int} {w : World} (h : OwnM w lo b nn (tabF ts)) :
    ∃ D : DataW Unit, MapOf D (tabF ts) ∧ Seen (((w.alloc (.cells #[.int .i64 (P : Int), .map (some b)] 70)).alloc (.cells #[.int .i64 (to : Int)] 3)).alloc (.cells #[.int .i64 port] 3)) (w.heap.size + 3) w.heap.size (w.heap.size + 1) (w.heap.size + 2) b nn (P : Int) (to : Int) port D := by
  have hlt := h.lt
  obtain ⟨_, D, h1, h2⟩ := h
  have e1 := heap_alloc_new w (.cells #[.int .i64 (P : Int), .map (some b)] 70)
  have e2 := heap_alloc_new (w.alloc (.cells #[.int .i64 (P : Int), .map (some b)] 70)) (.cells #[.int .i64 (to : Int)] 3)
  have e3 := heap_alloc_new ((w.alloc (.cells #[.int .i64 (P : Int), .map (some b)] 70)).alloc (.cells #[.int .i64 (to : Int)] 3)) (.cells #[.int .i64 port] 3)
  rw [World.size_alloc] at e2
  rw [World.size_alloc, World.size_alloc] at e3
  exact ⟨D, h2, (Below.heap_alloc _ _ _ (by simp only [World.size_alloc]; omega)).trans ((Below.heap_alloc _ _ _ (by simp only [World.size_alloc]; omega)).trans e1), (Below.heap_alloc _ _ _ (by simp only [World.size_alloc]; omega)).trans e2, e3, ((h1.alloc _).alloc _).alloc _, by omega, by omega, by omega, by omega⟩
end Go.Proofs.Ytmnhgghnaklneaa
