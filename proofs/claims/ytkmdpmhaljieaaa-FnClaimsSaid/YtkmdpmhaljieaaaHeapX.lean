/-
  Package heap's functions once more, one block more being told to stay as it is: what is proved here is that pushing adds a pair, popping takes the least one away, and the rest is a heap. Condition: at most 1,000,000 pairs.
-/
import Derived.Test.YtkmdpmhaljieaaaHeapB
namespace Go.Proofs.Ytkmdpmhaljieaaa
open Go.RowKit

/-- A slice of pairs that is not block X. -/
def PX (X : Nat) (w : World) (lo : Nat) (A : Option Addr) (n c : Nat) (ds : List (Int × Int)) : Prop := Pairs w lo A n c ds ∧ (∀ a, A = some a → a.block ≠ X) ∧ X < w.heap.size
/-- A variable of the call, from block lo on and not X, that holds a slice of these pairs. -/
def FlX (X : Nat) (w : World) (lo p : Nat) (ds : List (Int × Int)) : Prop := (lo ≤ p ∧ p ≠ X) ∧ ∃ A n c, Boxed w p 91 (.slice A n c) ∧ PX X w lo A n c ds
/-- What was there ahead of lo, and what is no pair and no variable of the heap's, is as it was. -/
structure FrX (X lo : Nat) (w w' : World) : Prop where
  os : w'.os = w.os
  tape : w'.tape = w.tape
  output : w'.output = w.output
  size : w.heap.size ≤ w'.heap.size
  block : ∀ k, k < w.heap.size → (k < lo ∨ k = X ∨ ∃ cur e fz, w.heap[k]? = some (.cells cur e fz) ∧ e ≠ 91 ∧ e ≠ 95) → w'.heap[k]? = w.heap[k]?
theorem FrX.refl (X lo : Nat) (w : World) : FrX X lo w w := ⟨rfl, rfl, rfl, Nat.le_refl _, fun _ _ _ => rfl⟩
theorem FrX.trans {X lo : Nat} {w w' w'' : World} (h : FrX X lo w w') (h' : FrX X lo w' w'') : FrX X lo w w'' :=
  ⟨h'.os.trans h.os, h'.tape.trans h.tape, h'.output.trans h.output, Nat.le_trans h.size h'.size, fun k hk hne =>
    (h'.block k (Nat.lt_of_lt_of_le hk h.size) (by rw [h.block k hk hne]; exact hne)).trans (h.block k hk hne)⟩
theorem FrX.of_below {X lo : Nat} {w w' : World} (h : Below w.heap.size w w') : FrX X lo w w' := ⟨h.os, h.tape, h.output, h.size, fun k hk _ => h.block k hk⟩
theorem FrX.below {X lo : Nat} {w w' : World} (h : FrX X lo w w') (hl : lo ≤ w.heap.size) : Below lo w w' := ⟨h.os, h.tape, h.output, h.size, fun k hk => h.block k (by omega) (.inl hk)⟩
theorem FrX.of_pairs {X lo n c : Nat} {A : Option Addr} {ds : List (Int × Int)} {w w' : World} (h : PX X w lo A n c ds) (hg : w.grownBy w' (A.map (·.block))) : FrX X lo w w' := by
  refine ⟨hg.os, hg.tape, hg.output, hg.size, fun k hk hne => hg.block k hk (fun e => ?_)⟩
  rcases h.1.2 with ⟨h', _⟩ | ⟨g, cap, cur, h', hb, hgg, _⟩
  · injection h' with hA; subst hA; cases e
  · injection h' with hA; subst hA
    obtain rfl : k = g := by simpa using e
    rcases hne with hne | hne | ⟨cur', e', fz, hh, _, h2⟩
    · omega
    · exact h.2.1 _ rfl hne
    · rw [hgg] at hh; injection hh with hh; injection hh with _ hh; exact h2 hh.symm
theorem FrX.of_box {X lo p : Nat} {v : Value} {w w' : World} (h : Boxed w p 91 v) (hl : lo ≤ p ∧ p ≠ X) (hg : w.grownBy w' (some p)) : FrX X lo w w' := by
  refine ⟨hg.os, hg.tape, hg.output, hg.size, fun k hk hne => hg.block k hk (fun e => ?_)⟩
  injection e with e
  subst e
  rcases hne with hne | hne | ⟨cur', e', fz, hh, h2, _⟩
  · omega
  · exact hl.2 hne
  · rw [show w.heap[k]? = _ from h] at hh; injection hh with hh; injection hh with _ hh; exact h2 hh.symm

set_option maxHeartbeats 1000000 in
theorem flightPop_x {w : World} {X lo p n : Nat} {ds : List (Int × Int)} (h : FlX X w lo p ds) (hd : ds.length = n + 1) (hn : n ≤ 1000000) :
    Calls Try.prog 138 #[.pointer (some ⟨p, 0, none⟩)] w fun e w' => e = .returned (.iface 95 (.agg #[.int .i64 (atP ds n).1, .int .i64 (atP ds n).2])) ∧ FlX X w' lo p (ds.take n) ∧ FrX X lo w w' := by
  obtain ⟨hp, A, m, c, hb, hPX⟩ := h
  have hP := hPX.1
  obtain rfl : m = n + 1 := by have := hP.len; omega
  obtain ⟨g, rfl, hg0, hg1⟩ := hP.at_ (i := n) (by omega)
  obtain ⟨c1, c2⟩ := hP.cell (i := n) (by omega)
  have b1 := hb.cell
  have b2 := hb.frozen
  have b3 := hb.lt
  have hc : n ≤ c := by
    rcases hP.2 with ⟨h', _⟩ | ⟨g', cap, cur, h', _, _, hcap, _⟩
    · cases h'
    · injection h' with _ _ h'; omega
  have key : ∀ w' : World, w' = ((w.setCell ⟨p, 0, none⟩ (.slice (some ⟨g, 0, none⟩) n c)).alloc (.cells #[.int .i64 (atP ds n).1, .int .i64 (atP ds n).2] 95)) → FlX X w' lo p (ds.take n) ∧ FrX X lo w w' := by
    rintro _ rfl
    have hne := hb.not_row (by decide) hP
    have hQ : w.ownsRow lo 95 2 (.slice (some ⟨g, 0, none⟩) n c) n (flat (ds.take n)) := by
      refine ownsRow_pop (last := flat (ds.drop n)) (by rw [flat_len, List.length_take]; omega) ?_
      rw [← flat_app, List.take_append_drop]; exact hP
    refine ⟨⟨hp, _, _, _, (hb.set _).alloc _, ?_, hPX.2.1, by have := hPX.2.2; simp; omega⟩, ?_⟩
    · exact World.ownsRow.alloc (hQ.kept (grownBy_setCell' w p _) (.inr fun e => hne (by simpa [Value.ownBlock] using e.symm))) _
    · exact (FrX.of_box hb hp (grownBy_setCell' w p _)).trans (FrX.of_below ((Below.refl _ _).alloc (Nat.le_refl _) _))
  have HK := Lib.hid key
  clear key hP hPX hb
  go_enter Try.func138, Try.ntmps138
  go_wp2
  go_ret
  exact ⟨rfl, HK.out _ rfl⟩

set_option maxHeartbeats 2000000 in
theorem flightPush_x {w : World} {X lo p : Nat} {x y : Int} {ds : List (Int × Int)} (h : FlX X w lo p ds) (hl : lo ≤ w.heap.size) (hd : ds.length ≤ 1000000) :
    Calls Try.prog 139 #[.pointer (some ⟨p, 0, none⟩), .iface 95 (.agg #[.int .i64 x, .int .i64 y])] w fun e w' => e = .returned (.tuple #[]) ∧ FlX X w' lo p (ds ++ [(x, y)]) ∧ FrX X lo w w' := by
  obtain ⟨i0, hi, hz0, hz1, hz2⟩ := info_parts2 Try.infoArrival
  obtain ⟨hp, A, n, c, hb, hPX⟩ := h
  have hP := hPX.1
  have hn := hP.len
  have b1 := hb.cell
  have b2 := hb.frozen
  have b3 := hb.lt
  have O5 : ((w.alloc (.cells #[Value.int .i64 x, Value.int .i64 y] 95)).drew).ownsRow lo 95 2 (.slice A n c) n (flat ds) := World.ownsRow.drew (World.ownsRow.alloc hP _)
  have N5 := Lib.hid (World.news_of_block (w := (w.alloc (.cells #[Value.int .i64 x, Value.int .i64 y] 95)).drew) (B := w.heap.size) (cs := #[Value.int .i64 x, Value.int .i64 y]) (t := 95) (fr := (0, 0)) (heap_alloc_new w _))
  have Z5 : lo ≤ ((w.alloc (.cells #[Value.int .i64 x, Value.int .i64 y] 95)).drew).heap.size := by simp; omega
  have ta := run_assert_arrival x y
  go_enter Try.func139, Try.ntmps139
  go_wp2
  go_region_law ((with_reducible refine step_append_lies _ rfl (.tmp 7) (.tmp 10) 91 rfl lo 95 i0 (.agg #[.int .i64 0, .int .i64 0]) 2 16 Try.underlyingFlight hi hz0 hz1 hz2 ?c1 ?c2 (.slice A n c) n (flat ds) rfl O5 ⟨w.heap.size, 0, none⟩ 1 1 (#[Value.int .i64 x, Value.int .i64 y] : Array Value).toList rfl ?c3 N5.out ?c4 ?c5 ?c6 ?c7 Z5 _ rfl ?_); (case c1 => rfl); (case c2 => decide); (case c3 => rfl); (case c4 => simp [Value.oneCell']); (case c5 => decide); (case c6 => unfold maxLen; omega); (case c7 => omega); intro g cap w6 O6 G6 hat6 _; have bx := Boxed.appended (tmp := .cells #[Value.int .i64 x, Value.int .i64 y] 95) hb (by decide) hP hl hp.1 O6 ⟨G6.os, G6.tape, G6.output, G6.size, G6.block⟩; have q1 := bx.1.cell; have q2 := bx.1.frozen)
  all_goals
    go_wp2
    refine bodyPost_end (results_none rfl _ _ _) rfl ?_
    refine ⟨rfl, ⟨hp, _, _, _, bx.2.1, ?_, ?_, ?_⟩, ?_⟩
    · unfold Pairs; rw [flat_app]; exact bx.2.2.1
    · intro a ha
      injection ha with ha
      subst ha
      simp only
      rcases hat6 with hat6 | hat6
      · cases A with
        | none => cases hat6
        | some ad =>
          have h1 := hPX.2.1 ad rfl
          have h2 : ad.block = g := by simpa [Value.ownBlock] using hat6
          omega
      · have h1 := hPX.2.2
        simp at hat6
        omega
    · have h1 := hPX.2.2
      have h2 := G6.size
      simp at h2 ⊢
      omega
    · have F1 : FrX X lo w (w.alloc (.cells #[Value.int .i64 x, Value.int .i64 y] 95)) := FrX.of_below ((Below.refl _ _).alloc (Nat.le_refl _) _)
      have hP2 : PX X (w.alloc (.cells #[Value.int .i64 x, Value.int .i64 y] 95)) lo A n c ds := ⟨World.ownsRow.alloc hP _, hPX.2.1, by have := hPX.2.2; simp; omega⟩
      have hA : (Value.slice A n c).ownBlock = A.map (·.block) := by cases A <;> rfl
      rw [hA] at G6
      have F2 : FrX X lo (w.alloc (.cells #[Value.int .i64 x, Value.int .i64 y] 95)) w6 := FrX.of_pairs hP2 ⟨G6.os, G6.tape, G6.output, G6.size, G6.block⟩
      exact F1.trans (F2.trans (FrX.of_box bx.1 hp (grownBy_setCell' w6 p _)))
theorem PX.bel {X : Nat} {w w' : World} {lo n c : Nat} {A : Option Addr} {ds : List (Int × Int)} (h : PX X w lo A n c ds) (hb : Below w.heap.size w w') : PX X w' lo A n c ds := ⟨Pairs.bel h.1 hb, h.2.1, Nat.lt_of_lt_of_le h.2.2 hb.size⟩
theorem FlX.bel {X : Nat} {w w' : World} {lo p : Nat} {ds : List (Int × Int)} (h : FlX X w lo p ds) (hb : Below w.heap.size w w') : FlX X w' lo p ds := by
  obtain ⟨hp, A, n, c, h1, h2⟩ := h
  exact ⟨hp, A, n, c, h1.kept (grown_of_below hb) (by simp), h2.bel hb⟩
/-- Another block, made behind. -/
theorem FlX.turn {X Y : Nat} {w w' : World} {lo p : Nat} {ds : List (Int × Int)} (h : FlX X w lo p ds) (hb : Below w.heap.size w w') (h1 : w.heap.size ≤ Y) (h2 : Y < w'.heap.size) : FlX Y w' lo p ds := by
  obtain ⟨hp, A, n, c, b1, b2⟩ := h
  have hl := b1.lt
  refine ⟨⟨hp.1, by omega⟩, A, n, c, b1.kept (grown_of_below hb) (by simp), Pairs.bel b2.1 hb, fun a ha e => ?_, h2⟩
  subst ha
  have := World.ownsRow.lt b2.1 a.block rfl
  omega
theorem fl_swapX {X : Nat} {w w' : World} {lo p n c : Nat} {A : Option Addr} {ds ds' : List (Int × Int)} (hp : lo ≤ p ∧ p ≠ X) (hb : Boxed w p 91 (.slice A n c)) (h : PX X w lo A n c ds) (h' : Pairs w' lo A n c ds') (hg : w.grownBy w' (A.map (·.block))) : FlX X w' lo p ds' ∧ FrX X lo w w' := by
  have hne := hb.not_row (by decide) h.1
  have hA : (Value.slice A n c).ownBlock = A.map (·.block) := by cases A <;> rfl
  rw [hA] at hne
  exact ⟨⟨hp, A, n, c, hb.kept hg hne, h', h.2.1, Nat.lt_of_lt_of_le h.2.2 hg.size⟩, FrX.of_pairs h hg⟩
set_option maxHeartbeats 2000000 in
theorem heapUp_x {w : World} {X lo p j : Nat} {ds : List (Int × Int)} (h : FlX X w lo p ds) (hj : j < ds.length) (hd : ds.length ≤ 1000000) (hu : HeapUp ds j) :
    Calls Try.prog 95 #[.iface 93 (.pointer (some ⟨p, 0, none⟩)), .int .i64 (j : Int)] w fun e w' => e = .returned (.tuple #[]) ∧ (∃ ds', FlX X w' lo p ds' ∧ ds'.Perm ds ∧ HeapN ds' ds'.length) ∧ FrX X lo w w' := by
  have H0 := Lib.hid h
  have HU := Lib.hid hu
  clear h hu
  go_enter Try.func95, Try.ntmps95
  go_wp2
  go_loopw [1] (fun t wr => ∃ (q : Nat) (es : List (Int × Int)), t = .int .i64 (q : Int) ∧ q < es.length ∧ Hid (FlX X wr lo p es) ∧ Hid (es.Perm ds) ∧ Hid (HeapUp es q) ∧ Hid (FrX X lo w wr)) (fun t _ => (intOf t).toNat)
  case atStart => exact ⟨j, ds, rfl, hj, H0, Lib.hid (List.Perm.refl _), HU, Lib.hid (FrX.refl _ _ _)⟩
  case round =>
    obtain ⟨q, es, rfl, hq, HF, HP, HH, HR⟩ := hrel
    have hlen := HP.out.length_eq
    by_cases h0 : q = 0
    · subst h0
      have hfin : (∃ ds', FlX X wr lo p ds' ∧ ds'.Perm ds ∧ HeapN ds' ds'.length) ∧ FrX X lo w wr := ⟨⟨es, HF.out, HP.out, up_top HH.out⟩, HR.out⟩
      have HZ := Lib.hid hfin
      clear hfin
      go_wp2
      refine bodyPost_end (results_none rfl _ _ _) rfl ?_
      exact ⟨rfl, HZ.out⟩
    · obtain ⟨r, hr⟩ : ∃ r : Nat, r = (q - 1) / 2 := ⟨_, rfl⟩
      have hr2 : ((q : Int) - 1).tdiv 2 = (r : Int) := by rw [Int.tdiv_eq_ediv_of_nonneg (by omega)]; omega
      have hrq : ((r : Int) == (q : Int)) = false := by simp; omega
      obtain ⟨hp, A, n, c, hb, hP⟩ := HF.out
      have hn := hP.1.len
      have mL := method_Less (a := ⟨p, 0, none⟩) wr hb.cell
      have hFr := HF.out
      have hrl : r < es.length := by omega
      have HRr := Lib.hid hr
      clear hr
      by_cases hlt : ltP (atP es q) (atP es r)
      · have C1 := Lib.hid (flightLess_b (c := c) (i := q) (j := r) (b := true) hP.1 (by omega) (by omega) (by omega) (by simpa using hlt))
        have HS := Lib.hid (up_step HH.out (by omega) hq HRr.out hlt)
        have HE := Lib.hid (swp_perm (ds := es) (i := r) (j := q) hrl hq)
        clear hlt
        go_wp2_with (first | (go_at_call 136; refine C1.out.mono ?_; rintro e w2 ⟨rfl, B2⟩; have mS := method_Swap (a := ⟨p, 0, none⟩) w2 (hb.kept (grown_of_below B2) (by simp)).cell) | (go_at_call 137; refine (flightSwap_any (lo := lo) (i := r) (j := q) (ds := es) (PX.bel hP B2).1 (by omega) (by omega) (by omega)).mono ?_; rintro e w3 ⟨rfl, P3, G3⟩))
        have hsw := fl_swapX hp (hb.kept (grown_of_below B2) (by simp)) (PX.bel hP B2) P3 G3
        exact ⟨⟨r, swp es r q, rfl, by rw [swp_len]; exact hrl, Lib.hid hsw.1, Lib.hid (HE.out.trans HP.out), HS, Lib.hid (HR.out.trans ((FrX.of_below B2).trans hsw.2))⟩, by simp [intOf]; have := HRr.out; omega⟩
      · have C1 := Lib.hid (flightLess_b (c := c) (i := q) (j := r) (b := false) hP.1 (by omega) (by omega) (by omega) (by simpa using hlt))
        have HS := Lib.hid (up_stop HH.out (by rw [← HRr.out]; exact hlt))
        clear hlt
        go_wp2_with (go_at_call 136; refine C1.out.mono ?_; rintro e w2 ⟨rfl, B2⟩)
        refine bodyPost_end (results_none rfl _ _ _) rfl ?_
        exact ⟨rfl, ⟨es, hFr.bel B2, HP.out, HS.out⟩, HR.out.trans (FrX.of_below B2)⟩
theorem heapUp_xi {w : World} {X lo p j : Nat} {ds : List (Int × Int)} {x : Int} (h : FlX X w lo p ds) (hj : j < ds.length) (hd : ds.length ≤ 1000000) (hu : HeapUp ds j) (hx : x = (j : Int)) :
    Calls Try.prog 95 #[.iface 93 (.pointer (some ⟨p, 0, none⟩)), .int .i64 x] w fun e w' => e = .returned (.tuple #[]) ∧ (∃ ds', FlX X w' lo p ds' ∧ ds'.Perm ds ∧ HeapN ds' ds'.length) ∧ FrX X lo w w' := by
  subst hx; exact heapUp_x h hj hd hu
set_option maxHeartbeats 4000000 in
theorem heapDown_x {w : World} {X lo p m : Nat} {ds : List (Int × Int)} (h : FlX X w lo p ds) (hm : m ≤ ds.length) (hd : ds.length ≤ 1000000) (hu : HeapDown ds 0 m) :
    Calls Try.prog 96 #[.iface 93 (.pointer (some ⟨p, 0, none⟩)), .int .i64 0, .int .i64 (m : Int)] w fun e w' => (∃ b, e = .returned (.bool b)) ∧ (∃ ds', FlX X w' lo p ds' ∧ ds'.Perm ds ∧ HeapN ds' m ∧ ∀ c, m ≤ c → atP ds' c = atP ds c) ∧ FrX X lo w w' := by
  have H0 := Lib.hid h
  have HU := Lib.hid hu
  clear h hu
  go_enter Try.func96, Try.ntmps96
  go_wp2
  go_loopw [7] (fun t wr => ∃ (q : Nat) (es : List (Int × Int)), t = .int .i64 (q : Int) ∧ q ≤ 1000000 ∧ Hid (FlX X wr lo p es) ∧ Hid (es.Perm ds) ∧ Hid (HeapDown es q m) ∧ Hid (∀ c, m ≤ c → atP es c = atP ds c) ∧ Hid (FrX X lo w wr)) (fun t _ => m - (intOf t).toNat)
  case atStart => exact ⟨0, ds, rfl, by omega, H0, Lib.hid (List.Perm.refl _), HU, Lib.hid (fun _ _ => rfl), Lib.hid (FrX.refl _ _ _)⟩
  case round =>
    obtain ⟨q, es, rfl, hq, HF, HP, HH, HK, HR⟩ := hrel
    have hlen := HP.out.length_eq
    by_cases h1 : 2 * q + 1 < m
    · have h1B : decide ((m : Int) ≤ 2 * (q : Int) + 1) = false := by simp; omega
      have h1C : decide (2 * (q : Int) + 1 ≥ (m : Int)) = false := by simp; omega
      have h0B : decide (2 * (q : Int) + 1 < 0) = false := by simp; omega
      obtain ⟨hp, A, n, c, hb, hP⟩ := HF.out
      have hn := hP.1.len
      have hFr := HF.out
      have mL := method_Less (a := ⟨p, 0, none⟩) wr hb.cell
      by_cases h2 : 2 * q + 2 < m
      · have h2B : decide (2 * (q : Int) + 2 < (m : Int)) = true := by simp; omega
        have h2C : decide (2 * (q : Int) + 1 + 1 < (m : Int)) = true := by simp; omega
        by_cases hl : ltP (atP es (2 * q + 2)) (atP es (2 * q + 1))
        · skip
          have hKid := Lib.hid (kid_right (ds := es) h2 hl)
          by_cases hlt : ltP (atP es (2 * q + 2)) (atP es q)
          · have HS := Lib.hid (down_step HH.out (by omega) hKid.out hlt)
            go_wp2_with (fail)
            refine (flightLess_i (i := 2 * q + 2) (j := 2 * q + 1) (b := true) hP.1 (by omega) (by omega) (by omega) (by omega) (by omega) (by simpa using hl)).mono ?_
            rintro e v1 ⟨rfl, D1⟩
            have hb1 := boxed_bel hb D1
            have hP1 := PX.bel hP D1
            have hF1 := hFr.bel D1
            have mL1 := method_Less (a := ⟨p, 0, none⟩) v1 hb1.cell
            go_wp2_with (fail)
            refine (flightLess_i (i := 2 * q + 2) (j := q) (b := true) hP1.1 (by omega) (by omega) (by omega) (by omega) (by omega) (by simpa using hlt)).mono ?_
            rintro e v2 ⟨rfl, D2⟩
            have hb4 := boxed_bel hb1 D2
            have hP4 := PX.bel hP1 D2
            have mS := method_Swap (a := ⟨p, 0, none⟩) v2 hb4.cell
            go_wp2_with (fail)
            refine (flightSwap_i (i := q) (j := 2 * q + 2) hP4.1 (by omega) (by omega) (by omega) (by omega) (by omega)).mono ?_
            rintro e v3 ⟨rfl, P3, G3⟩
            have hsw := fl_swapX hp hb4 hP4 P3 G3
            have hpr := swp_perm (ds := es) (i := q) (j := 2 * q + 2) (by omega) (by omega)
            have hkp : ∀ c, m ≤ c → atP (swp es q (2 * q + 2)) c = atP ds c := fun c hc => by rw [swp_o (by omega) (by omega) (by omega) (by omega)]; exact HK.out c hc
            go_wp2
            exact ⟨⟨2 * q + 2, swp es q (2 * q + 2), by go_num, by omega, Lib.hid hsw.1, Lib.hid (hpr.trans HP.out), HS, Lib.hid hkp, Lib.hid (HR.out.trans ((FrX.of_below D1).trans ((FrX.of_below D2).trans hsw.2)))⟩, by simp [intOf]; omega⟩
          · have HS := Lib.hid (down_stop HH.out hKid.out hlt)
            go_wp2_with (fail)
            refine (flightLess_i (i := 2 * q + 2) (j := 2 * q + 1) (b := true) hP.1 (by omega) (by omega) (by omega) (by omega) (by omega) (by simpa using hl)).mono ?_
            rintro e v1 ⟨rfl, D1⟩
            have hb1 := boxed_bel hb D1
            have hP1 := PX.bel hP D1
            have hF1 := hFr.bel D1
            have mL1 := method_Less (a := ⟨p, 0, none⟩) v1 hb1.cell
            go_wp2_with (fail)
            refine (flightLess_i (i := 2 * q + 2) (j := q) (b := false) hP1.1 (by omega) (by omega) (by omega) (by omega) (by omega) (by simpa using hlt)).mono ?_
            rintro e v2 ⟨rfl, D2⟩
            go_wp2
            go_ret
            exact ⟨⟨_, rfl⟩, ⟨es, hF1.bel D2, HP.out, HS.out, HK.out⟩, HR.out.trans ((FrX.of_below D1).trans (FrX.of_below D2))⟩
        · skip
          have hKid := Lib.hid (kid_left (ds := es) h1 hl)
          by_cases hlt : ltP (atP es (2 * q + 1)) (atP es q)
          · have HS := Lib.hid (down_step HH.out (by omega) hKid.out hlt)
            go_wp2_with (fail)
            refine (flightLess_i (i := 2 * q + 2) (j := 2 * q + 1) (b := false) hP.1 (by omega) (by omega) (by omega) (by omega) (by omega) (by simpa using hl)).mono ?_
            rintro e v1 ⟨rfl, D1⟩
            have hb1 := boxed_bel hb D1
            have hP1 := PX.bel hP D1
            have hF1 := hFr.bel D1
            have mL1 := method_Less (a := ⟨p, 0, none⟩) v1 hb1.cell
            go_wp2_with (fail)
            refine (flightLess_i (i := 2 * q + 1) (j := q) (b := true) hP1.1 (by omega) (by omega) (by omega) (by omega) (by omega) (by simpa using hlt)).mono ?_
            rintro e v2 ⟨rfl, D2⟩
            have hb4 := boxed_bel hb1 D2
            have hP4 := PX.bel hP1 D2
            have mS := method_Swap (a := ⟨p, 0, none⟩) v2 hb4.cell
            go_wp2_with (fail)
            refine (flightSwap_i (i := q) (j := 2 * q + 1) hP4.1 (by omega) (by omega) (by omega) (by omega) (by omega)).mono ?_
            rintro e v3 ⟨rfl, P3, G3⟩
            have hsw := fl_swapX hp hb4 hP4 P3 G3
            have hpr := swp_perm (ds := es) (i := q) (j := 2 * q + 1) (by omega) (by omega)
            have hkp : ∀ c, m ≤ c → atP (swp es q (2 * q + 1)) c = atP ds c := fun c hc => by rw [swp_o (by omega) (by omega) (by omega) (by omega)]; exact HK.out c hc
            go_wp2
            exact ⟨⟨2 * q + 1, swp es q (2 * q + 1), by go_num, by omega, Lib.hid hsw.1, Lib.hid (hpr.trans HP.out), HS, Lib.hid hkp, Lib.hid (HR.out.trans ((FrX.of_below D1).trans ((FrX.of_below D2).trans hsw.2)))⟩, by simp [intOf]; omega⟩
          · have HS := Lib.hid (down_stop HH.out hKid.out hlt)
            go_wp2_with (fail)
            refine (flightLess_i (i := 2 * q + 2) (j := 2 * q + 1) (b := false) hP.1 (by omega) (by omega) (by omega) (by omega) (by omega) (by simpa using hl)).mono ?_
            rintro e v1 ⟨rfl, D1⟩
            have hb1 := boxed_bel hb D1
            have hP1 := PX.bel hP D1
            have hF1 := hFr.bel D1
            have mL1 := method_Less (a := ⟨p, 0, none⟩) v1 hb1.cell
            go_wp2_with (fail)
            refine (flightLess_i (i := 2 * q + 1) (j := q) (b := false) hP1.1 (by omega) (by omega) (by omega) (by omega) (by omega) (by simpa using hlt)).mono ?_
            rintro e v2 ⟨rfl, D2⟩
            go_wp2
            go_ret
            exact ⟨⟨_, rfl⟩, ⟨es, hF1.bel D2, HP.out, HS.out, HK.out⟩, HR.out.trans ((FrX.of_below D1).trans (FrX.of_below D2))⟩
      · have h2B : decide (2 * (q : Int) + 2 < (m : Int)) = false := by simp; omega
        have h2C : decide (2 * (q : Int) + 1 + 1 < (m : Int)) = false := by simp; omega
        have hKid := Lib.hid (kid_one (ds := es) h1 h2)
        by_cases hlt : ltP (atP es (2 * q + 1)) (atP es q)
        · have HS := Lib.hid (down_step HH.out (by omega) hKid.out hlt)
          go_wp2_with (fail)
          refine (flightLess_i (i := 2 * q + 1) (j := q) (b := true) hP.1 (by omega) (by omega) (by omega) (by omega) (by omega) (by simpa using hlt)).mono ?_
          rintro e v2 ⟨rfl, D2⟩
          have hb4 := boxed_bel hb D2
          have hP4 := PX.bel hP D2
          have mS := method_Swap (a := ⟨p, 0, none⟩) v2 hb4.cell
          go_wp2_with (fail)
          refine (flightSwap_i (i := q) (j := 2 * q + 1) hP4.1 (by omega) (by omega) (by omega) (by omega) (by omega)).mono ?_
          rintro e v3 ⟨rfl, P3, G3⟩
          have hsw := fl_swapX hp hb4 hP4 P3 G3
          have hpr := swp_perm (ds := es) (i := q) (j := 2 * q + 1) (by omega) (by omega)
          have hkp : ∀ c, m ≤ c → atP (swp es q (2 * q + 1)) c = atP ds c := fun c hc => by rw [swp_o (by omega) (by omega) (by omega) (by omega)]; exact HK.out c hc
          go_wp2
          exact ⟨⟨2 * q + 1, swp es q (2 * q + 1), by go_num, by omega, Lib.hid hsw.1, Lib.hid (hpr.trans HP.out), HS, Lib.hid hkp, Lib.hid (HR.out.trans (((FrX.of_below D2).trans hsw.2)))⟩, by simp [intOf]; omega⟩
        · have HS := Lib.hid (down_stop HH.out hKid.out hlt)
          go_wp2_with (fail)
          refine (flightLess_i (i := 2 * q + 1) (j := q) (b := false) hP.1 (by omega) (by omega) (by omega) (by omega) (by omega) (by simpa using hlt)).mono ?_
          rintro e v2 ⟨rfl, D2⟩
          go_wp2
          go_ret
          exact ⟨⟨_, rfl⟩, ⟨es, hFr.bel D2, HP.out, HS.out, HK.out⟩, HR.out.trans ((FrX.of_below D2))⟩
    · have h1B : decide ((m : Int) ≤ 2 * (q : Int) + 1) = true := by simp; omega
      have h1C : decide (2 * (q : Int) + 1 ≥ (m : Int)) = true := by simp; omega
      have HS := Lib.hid (down_end HH.out (by omega))
      go_wp2
      go_ret
      exact ⟨⟨_, rfl⟩, ⟨es, HF.out, HP.out, HS.out, HK.out⟩, HR.out⟩
set_option maxHeartbeats 1000000 in
theorem heapPush_x {w : World} {X lo p : Nat} {x y : Int} {ds : List (Int × Int)} (h : FlX X w lo p ds) (hl : lo ≤ w.heap.size) (hd : ds.length < 1000000) (hh : HeapN ds ds.length) :
    Calls Try.prog 86 #[.iface 93 (.pointer (some ⟨p, 0, none⟩)), .iface 95 (.agg #[.int .i64 x, .int .i64 y])] w fun e w' => e = .returned (.tuple #[]) ∧ (∃ ds', FlX X w' lo p ds' ∧ ds'.Perm (ds ++ [(x, y)]) ∧ HeapN ds' ds'.length) ∧ FrX X lo w w' := by
  have mP := method_Push ⟨p, 0, none⟩
  have hlen : (ds ++ [(x, y)]).length = ds.length + 1 := by simp
  go_enter Try.func86, Try.ntmps86
  go_wp2_with (fail)
  refine (flightPush_x h hl (by omega)).mono ?_
  rintro e w1 ⟨rfl, F1, R1⟩
  have F1' := F1
  obtain ⟨hp1, A, n, c, hb1, hP1⟩ := F1
  have hn := hP1.1.len
  have mL := method_Len (a := ⟨p, 0, none⟩) w1 hb1.cell
  go_wp2_with (fail)
  refine (flightLen_any _ _ _ _).mono ?_
  rintro e w2 ⟨rfl, rfl⟩
  go_wp2_with (fail)
  refine (heapUp_xi (j := ds.length) F1' (by omega) (by omega) (push_start hh) (by omega)).mono ?_
  rintro e w3 ⟨rfl, ⟨es, h1, h2, h3⟩, R3⟩
  go_wp2
  refine bodyPost_end (results_none rfl _ _ _) rfl ?_
  exact ⟨rfl, ⟨es, h1, h2, h3⟩, R1.trans R3⟩
set_option maxHeartbeats 1000000 in
theorem heapPop_x {w : World} {X lo p m : Nat} {ds : List (Int × Int)} (h : FlX X w lo p ds) (hd : ds.length = m + 1) (hm : m < 1000000) (hh : HeapN ds (m + 1)) :
    Calls Try.prog 88 #[.iface 93 (.pointer (some ⟨p, 0, none⟩))] w fun e w' => e = .returned (.iface 95 (.agg #[.int .i64 (atP ds 0).1, .int .i64 (atP ds 0).2])) ∧ (∃ ds', FlX X w' lo p ds' ∧ (atP ds 0 :: ds').Perm ds ∧ HeapN ds' ds'.length) ∧ FrX X lo w w' := by
  have mP := method_Pop ⟨p, 0, none⟩
  obtain ⟨hp, A, n, c, hb, hP⟩ := h
  have hn := hP.1.len
  have mL := method_Len (a := ⟨p, 0, none⟩) w hb.cell
  have mS := method_Swap (a := ⟨p, 0, none⟩) w hb.cell
  have hnn : ((n : Int) - 1) = (m : Int) := by omega
  have hst := Lib.hid (pop_start hh hd)
  have hpr := Lib.hid (swp_perm (ds := ds) (i := 0) (j := m) (by omega) (by omega))
  go_enter Try.func88, Try.ntmps88
  go_wp2_with (fail)
  refine (flightLen_any _ _ _ _).mono ?_
  rintro e w2 ⟨rfl, rfl⟩
  go_wp2_with (fail)
  refine (flightSwap_i (i := 0) (j := m) hP.1 (by omega) (by omega) (by omega) rfl (by omega)).mono ?_
  rintro e w3 ⟨rfl, P3, G3⟩
  have hsw := fl_swapX hp hb hP P3 G3
  go_wp2_with (fail)
  refine (heapDown_x (m := m) hsw.1 (by rw [swp_len]; omega) (by rw [swp_len]; omega) hst.out).mono ?_
  rintro e w4 ⟨⟨b4, rfl⟩, ⟨es, F4, E4, N4, K4⟩, R4⟩
  have hl4 : es.length = m + 1 := by rw [E4.length_eq, swp_len, hd]
  have hat : atP es m = atP ds 0 := by rw [K4 m (Nat.le_refl _), swp_j (by omega) (by omega)]
  go_wp2_with (fail)
  refine (flightPop_x F4 hl4 (by omega)).mono ?_
  rintro e w5 ⟨rfl, F5, R5⟩
  have hfin : (∃ ds', FlX X w5 lo p ds' ∧ (atP ds 0 :: ds').Perm ds ∧ HeapN ds' ds'.length) ∧ FrX X lo w w5 := by
    refine ⟨⟨es.take m, F5, ?_, ?_⟩, hsw.2.trans (R4.trans R5)⟩
    · rw [← hat]; exact (take_perm hl4).trans (E4.trans hpr.out)
    · rw [List.length_take, hl4, Nat.min_eq_left (by omega)]; exact heap_take N4
  rw [hat]
  go_wp2
  go_ret
  exact ⟨rfl, hfin⟩
end Go.Proofs.Ytkmdpmhaljieaaa
