/-
  Chapter 14's program: what is proved here is what ShapePulses and TokensAt return, and that they write nothing that was there. Condition: lengths up to 2^24.
-/
import Derived.Test.YtnloejcfakcpfaaImp14d
namespace Go.Proofs.Ytnloejcfakcpfaa
open Go.RowKit

theorem zeros14 (n : Nat) : (madeCells (Value.cells (.int .i64 0)) (n * 1)).toList = ints .i64 (List.replicate n 0) := by
  rw [Nat.mul_one, show ints .i64 (List.replicate n 0) = List.replicate n (.int .i64 0) by simp [ints]]; exact toList_madeCells_one _ _
set_option maxHeartbeats 4000000 in
theorem implShapePulses_r {A : Option Addr} {n c : Nat} {r b : Int} {hs : List Duo} {w : World} {L : List Int} (h : HasD w A n hs) (hn : n ≤ 16777216) (hL : shpI r b hs = L) :
    Calls Try.prog 25 #[.int .i64 r, .int .i64 b, .slice A n c] w fun e w' => ∃ A' n' c', e = .returned (.slice A' n' c') ∧ Own w' w.heap.size 3 A' n' c' (ints .i64 L) ∧ Below w.heap.size w w' := by
  obtain ⟨i0, hi, hz0, hz1, hz2⟩ := info_parts Try.infoInt
  have HLN := Lib.hid h.1
  have HL := Lib.hid hL
  clear hL
  by_cases hok : shOk r b hs
  rotate_left
  · have C := Lib.hid (areShaped_b (c := c) h hn (decide_eq_false hok))
    have HE := Lib.hid (show [] = L by rw [← HL.out]; unfold shpI; rw [if_neg (fun hh => hok hh.1)])
    clear hok
    go_enter Try.func25, Try.ntmps25
    go_wp2_with (fail)
    refine C.out.mono ?_
    rintro e w' ⟨rfl, B2⟩
    go_wp2
    go_ret
    exact ⟨none, 0, 0, rfl, HE.out ▸ World.ownsRow_nil _ _ _ _, B2⟩
  have C := Lib.hid (areShaped_b (c := c) h hn (decide_eq_true hok))
  obtain ⟨G, hG⟩ : ∃ G, greatTo hs n = G := ⟨_, rfl⟩
  have C2 := Lib.hid (fun (W : World) (hW : HasD W A n hs) => hG ▸ greatest_any (c := c) hW hn)
  have hgs : G ≤ b ↔ sizOk b hs := by rw [← hG, ← HLN.out]; exact great_siz (by have := hok.2.1; omega)
  by_cases hz : sizOk b hs
  rotate_left
  · have s1 : decide (G > b) = true := decide_eq_true (by have := mt hgs.1 hz; omega)
    have s2 : decide (b < G) = true := decide_eq_true (by have := mt hgs.1 hz; omega)
    have HE := Lib.hid (show [] = L by rw [← HL.out]; unfold shpI; rw [if_neg (fun hh => hz hh.2)])
    clear hok hz hgs hG
    go_enter Try.func25, Try.ntmps25
    go_wp2_with (fail)
    refine C.out.mono ?_
    rintro e w2 ⟨rfl, B2⟩
    go_wp2_with (fail)
    refine (C2.out _ (h.bel B2)).mono ?_
    rintro e w3 ⟨rfl, B3⟩
    go_wp2
    go_ret
    exact ⟨none, 0, 0, rfl, HE.out ▸ World.ownsRow_nil _ _ _ _, bel_trans B2 B3⟩
  have s1 : decide (G > b) = false := decide_eq_false (by have := hgs.2 hz; omega)
  have s2 : decide (b < G) = false := decide_eq_false (by have := hgs.2 hz; omega)
  have HE := Lib.hid (show shpTo r b hs n = L by rw [← HL.out, ← HLN.out]; unfold shpI; rw [if_pos ⟨hok, hz⟩])
  have HOK := Lib.hid hok
  have HZ := Lib.hid hz
  have HS0 : Hid ((shS r b hs 0).1 = 0 ∧ (shS r b hs 0).2 = 0) := ⟨rfl, rfl⟩
  clear hok hz hgs hG
  go_enter Try.func25, Try.ntmps25
  go_wp2_with (fail)
  refine C.out.mono ?_
  rintro e w1 ⟨rfl, B1⟩
  go_wp2_with (fail)
  refine (C2.out _ (h.bel B1)).mono ?_
  rintro e w2 ⟨rfl, B12⟩
  have B2 := bel_trans B1 B12
  clear B1 B12
  obtain ⟨S, hS⟩ : ∃ S, w2.heap.size = S := ⟨_, rfl⟩
  obtain ⟨w3, hw3⟩ : ∃ W, w2.alloc (.cells #[.int .i64 r, .int .i64 b, .int .i64 0] 65) = W := ⟨_, rfl⟩
  have K3 : ShRow w3 S r b 0 := hS ▸ hw3 ▸ shRow_alloc w2 r b 0
  have B3 : Below w2.heap.size w2 w3 := hw3 ▸ below_allocJ w2 _
  have BB3 := bel_trans B2 B3
  have hSw : w.heap.size ≤ S := by rw [← hS]; exact B2.size
  have hS3 := K3.lt
  have HW3 := Lib.hid hw3
  clear hw3
  go_wp2_with (at_make; rw [HW3.out]; refine wpList_make_full _ rfl _ _ 33 rfl w3.heap.size 3 i0 (.int .i64 0) 1 Try.underlying33 hi hz0 hz1 .i64 .i64 _ _ n rfl rfl (by omega) (by omega) (by rw [hz2]; omega) (by unfold maxLen; omega) (Nat.le_refl _) ?_; intro w4 hown hgrow)
  rw [zeros14 n] at hown
  have O4 : Own w4 w3.heap.size 3 (some ⟨w3.heap.size, 0, none⟩) n n (ints .i64 ((shpTo r b hs n).take 0 ++ List.replicate (n - 0) 0)) := hown
  have B4 : Below w3.heap.size w3 w4 := below_of_grown hgrow (Nat.le_refl _) (fun k hk => by cases hk)
  have K4 := K3.bel B4
  have BB4 := bel_trans BB3 B4
  have hlo := BB3.size
  obtain ⟨g, hg⟩ : ∃ g, w3.heap.size = g := ⟨_, rfl⟩
  rw [hg] at O4 hlo hS3 ⊢
  have hne : g ≠ S := by omega
  have hln := HLN.out
  clear hown hgrow B3 B4 K3 BB3 B2 HW3 hS
  go_wp2
  go_loopw [9, 31] (fun l i wr => ∃ (k : Nat) (F u : Int), k ≤ n ∧ i = .int .i64 (k : Int) ∧ l = .int .i64 u ∧ Hid ((shS r b hs k).1 = F ∧ (shS r b hs k).2 = u) ∧ ShRow wr S r b F ∧ Own wr g 3 (some ⟨g, 0, none⟩) n n (ints .i64 ((shpTo r b hs n).take k ++ List.replicate (n - k) 0)) ∧ Below w.heap.size w wr) (fun _ i _ => n - (intOf i).toNat)
  case atStart => exact ⟨0, 0, 0, Nat.zero_le _, rfl, rfl, HS0, K4, O4, BB4⟩
  case round =>
    clear O4 K4 BB4
    obtain ⟨k, F, u, hk, rfl, rfl, HFU, K, O, B⟩ := hrel
    by_cases hlt : k < n
    · have hltB : decide ((k : Int) < (n : Int)) = true := by simp; omega
      obtain ⟨bb, o, f, t, rfl, hbl, hx, c0, c1⟩ := (h.bel B).at_ hlt
      have hpu := pu_at HOK.out.2.2 (i := k) (by omega)
      have hdj := dj_atS hx
      rw [hdj] at hpu
      obtain ⟨hf, ht⟩ := hpu
      dsimp only at hf ht
      obtain ⟨q1, q2, q3, q4⟩ := shp_bound HOK.out HZ.out k (by omega)
      have hn60 := HOK.out.2.2.2.2
      have hbb := HOK.out.2.1
      have q5 := mul_bound HOK.out.1 (t := (shS r b hs k).2) ⟨q3, by omega⟩
      obtain ⟨s, hs'⟩ : ∃ s, shT r b hs k = s := ⟨_, rfl⟩
      have q6 := shT_bound HOK.out HZ.out (k := k) (by omega)
      rw [hs'] at q6
      have hsx : goAt r b F (max f u) t = s := by rw [← hs', ← HFU.out.1, ← HFU.out.2]; unfold shT; rw [hdj]
      rw [HFU.out.1] at q1 q2
      rw [HFU.out.2] at q2 q3 q4 q5
      obtain ⟨v, hv⟩ : ∃ v, takeF r F s t = v := ⟨_, rfl⟩
      have HFU2 : Hid ((shS r b hs (k + 1)).1 = v ∧ (shS r b hs (k + 1)).2 = s) := by
        have : (shS r b hs (k + 1)).1 = v ∧ (shS r b hs (k + 1)).2 = s := by rw [shS_succ, hs', HFU.out.1, hdj]; exact ⟨hv, rfl⟩
        exact this
      have HX := Lib.hid (set_take (shpTo r b hs n) 0 k n (shpTo_len _ _ _ _) hlt s (by rw [shpTo_at _ _ _ hlt, hs']))
      obtain ⟨W5, hW5⟩ : ∃ W, wr.alloc (.cells #[.int .i64 f, .int .i64 t] 29) = W := ⟨_, rfl⟩
      have B5 : Below wr.heap.size wr W5 := hW5 ▸ below_allocJ wr _
      have R5 : W5.heap[wr.heap.size]? = some (.cells #[.int .i64 f, .int .i64 t] 29 (0, 0)) := hW5 ▸ heap_alloc_new wr _
      obtain ⟨r0, r1⟩ := cells2D R5
      have K5 := K.bel B5
      have O5 := O.bel B5
      have BB5 := bel_trans B B5
      have C6 := Lib.hid (shape_any K5 HOK.out.1 HOK.out.2.1 (show 0 ≤ F ∧ F ≤ 200000 by omega) (show 0 ≤ f ∧ f ≤ 6000 by omega) (show 0 ≤ u ∧ u ≤ 6000 by omega) (show 0 ≤ t ∧ t ≤ 50 by omega) hsx (show 0 ≤ s ∧ s ≤ 6000 by omega) hv)
      clear hx hdj hf ht hs' hv hsx q1 q2 q3 q4 q5 q6 K O B B5 R5 hbb hn60
      go_wp2_with (fail)
      refine C6.out.mono ?_
      rintro e w6 ⟨rfl, K6, G6⟩
      have O6 := own_keep14 O5 G6 hne
      have BB6 := BB5.trans (below_of_grown G6 BB5.size (fun j hj => by injection hj with hj; omega))
      obtain ⟨x, hu, hd, hfz⟩ := O6.at_ hlt
      have O7 := O6.set_ k (.int .i64 s)
      rw [ints_set, HX.out] at O7
      have B7 := BB6.setCell (p := ⟨g, k, none⟩) hlo (.int .i64 s)
      have K7 : ShRow (w6.setCell ⟨g, k, none⟩ (.int .i64 s)) S r b v := (heap_setCell_other w6 ⟨g, k, none⟩ S (.int .i64 s) (by show S ≠ g; omega)).trans K6
      clear hu O6 K6 G6 O5 K5 BB5 BB6
      go_wp2
      go_roundw
      case rel => exact ⟨k + 1, _, _, by omega, by go_num, rfl, HFU2, K7, O7, B7⟩
      case measure => simp [intOf]; omega
    · have hltB : decide ((k : Int) < (n : Int)) = false := by simp; omega
      obtain rfl : k = n := by omega
      rw [List.take_of_length_le (by rw [shpTo_len]; omega), Nat.sub_self, List.replicate_zero, List.append_nil] at O
      go_wp2
      go_ret
      exact ⟨_, _, _, rfl, HE.out ▸ O.mono hlo, B⟩
theorem full_of {r b : Int} {hs : List Duo} (h : pulOk hs) {k : Nat} (hk : k < hs.length) {t : Int} :
    fullTo r b hs (min (k + 1) (cntT hs t)) = if (dj hs k).1 ≤ t then polF r b (fullTo r b hs (min k (cntT hs t))) (dj hs k) else fullTo r b hs (min k (cntT hs t)) := by
  have hi := cntT_iff h (t := t) hk
  by_cases hc : (dj hs k).1 ≤ t
  · have := hi.1 hc
    rw [if_pos hc, show min (k + 1) (cntT hs t) = k + 1 by omega, show min k (cntT hs t) = k by omega]
    rfl
  · have : ¬ k < cntT hs t := fun hh => hc (hi.2 hh)
    rw [if_neg hc, show min (k + 1) (cntT hs t) = min k (cntT hs t) by omega]
set_option maxHeartbeats 4000000 in
theorem implTokensAt_r {A : Option Addr} {n c : Nat} {r b t v : Int} {hs : List Duo} {w : World} (h : HasD w A n hs) (hn : n ≤ 16777216) (hv : tokI r b hs t = v) :
    Calls Try.prog 30 #[.int .i64 r, .int .i64 b, .slice A n c, .int .i64 t] w fun e w' => e = .returned (.int .i64 v) ∧ Below w.heap.size w w' := by
  have HLN := Lib.hid h.1
  have HV := Lib.hid hv
  clear hv
  by_cases hok : shOk r b hs
  rotate_left
  · have C := Lib.hid (areShaped_b (c := c) h hn (decide_eq_false hok))
    have HE := Lib.hid (show (-1 : Int) = v by rw [← HV.out]; unfold tokI; rw [if_neg (fun hh => hok hh.1)])
    clear hok
    go_enter Try.func30, Try.ntmps30
    go_wp2_with (fail)
    refine C.out.mono ?_
    rintro e w' ⟨rfl, B2⟩
    go_wp2
    go_ret
    exact ⟨ret_int HE.out, B2⟩
  have C := Lib.hid (areShaped_b (c := c) h hn (decide_eq_true hok))
  have HOK := Lib.hid hok
  by_cases ht : 0 ≤ t ∧ t ≤ 2000
  rotate_left
  · have C2 := Lib.hid (fun W => isPulseTime_no W ht)
    have HE := Lib.hid (show (-1 : Int) = v by rw [← HV.out]; unfold tokI; rw [if_neg (fun hh => ht hh.2)])
    clear hok ht
    go_enter Try.func30, Try.ntmps30
    go_wp2_with (fail)
    refine C.out.mono ?_
    rintro e w2 ⟨rfl, B2⟩
    go_wp2_with (fail)
    refine (C2.out _).mono ?_
    rintro e w' ⟨rfl, rfl⟩
    go_wp2
    go_ret
    exact ⟨ret_int HE.out, B2⟩
  have C2 := Lib.hid (fun W => isPulseTime_yes W ht)
  have HE := Lib.hid (show tokAt r b hs t = v by rw [← HV.out]; unfold tokI; rw [if_pos ⟨hok, ht⟩])
  have HT := Lib.hid ht
  clear hok ht
  go_enter Try.func30, Try.ntmps30
  go_wp2_with (fail)
  refine C.out.mono ?_
  rintro e w2 ⟨rfl, B2⟩
  go_wp2_with (fail)
  refine (C2.out _).mono ?_
  rintro e w2 ⟨rfl, rfl⟩
  obtain ⟨S, hS⟩ : ∃ S, w2.heap.size = S := ⟨_, rfl⟩
  have K3 : ShRow (w2.alloc (.cells #[.int .i64 r, .int .i64 b, .int .i64 0] 65)) S r b (fullTo r b hs (min 0 (cntT hs t))) := by
    rw [Nat.zero_min]; exact hS ▸ shRow_alloc w2 r b 0
  have B3 := bel_trans B2 (below_allocJ w2 (.cells #[.int .i64 r, .int .i64 b, .int .i64 0] 65))
  have hSw : w.heap.size ≤ S := by rw [← hS]; exact B2.size
  have hln := HLN.out
  clear B2
  go_wp2
  go_loopw [27] (fun i wr => ∃ (k : Nat), k ≤ n ∧ i = .int .i64 (k : Int) ∧ ShRow wr S r b (fullTo r b hs (min k (cntT hs t))) ∧ Below w.heap.size w wr) (fun i _ => n - (intOf i).toNat)
  case atStart => exact ⟨0, Nat.zero_le _, rfl, K3, B3⟩
  case round =>
    clear K3 B3
    obtain ⟨k, hk, rfl, K, B⟩ := hrel
    by_cases hlt : k < n
    · have hltB : decide ((k : Int) < (n : Int)) = true := by simp; omega
      obtain ⟨bb, o, f, m, rfl, hbl, hx, c0, c1⟩ := (h.bel B).at_ hlt
      have hdj := dj_atS hx
      have hpu := pu_at HOK.out.2.2 (i := k) (by omega)
      have hfo := full_of (r := r) (b := b) HOK.out.2.2 (k := k) (by omega) (t := t)
      have hfb := full_ok HOK.out (k := min k (cntT hs t)) (by omega)
      rw [hdj] at hpu hfo
      obtain ⟨hf, hm⟩ := hpu
      dsimp only at hf hm hfo
      obtain ⟨v2, hv2⟩ : ∃ v2, fullTo r b hs (min (k + 1) (cntT hs t)) = v2 := ⟨_, rfl⟩
      have HV2 := Lib.hid hv2
      rw [hv2] at hfo
      clear hv2
      generalize fullTo r b hs (min k (cntT hs t)) = F at K hfo hfb
      obtain ⟨W5, hW5⟩ : ∃ W, wr.alloc (.cells #[.int .i64 f, .int .i64 m] 29) = W := ⟨_, rfl⟩
      have B5 : Below wr.heap.size wr W5 := hW5 ▸ below_allocJ wr _
      have R5 : W5.heap[wr.heap.size]? = some (.cells #[.int .i64 f, .int .i64 m] 29 (0, 0)) := hW5 ▸ heap_alloc_new wr _
      obtain ⟨r0, r1⟩ := cells2D R5
      have K5 := K.bel B5
      have BB5 := bel_trans B B5
      by_cases hc : f ≤ t
      · have l1 : decide (f ≤ t) = true := decide_eq_true hc
        rw [if_pos hc] at hfo
        obtain ⟨p, hp⟩ : ∃ p, passB r b F (f, m) = p := ⟨_, rfl⟩
        have C6 := Lib.hid (police_any K5 HOK.out.1 HOK.out.2.1 hfb (show 0 ≤ f ∧ f ≤ 6000 by omega) (show 0 ≤ m ∧ m ≤ 50 by omega) hp hfo.symm)
        clear hx hdj hf hm hfo hfb K B B5 R5 hc hp
        go_wp2_with (fail)
        refine C6.out.mono ?_
        rintro e w6 ⟨rfl, K6, G6⟩
        have BB6 := BB5.trans (below_of_grown G6 BB5.size (fun j hj => by injection hj with hj; omega))
        have K7 := HV2.out.symm ▸ K6
        clear K6 G6 K5 BB5
        go_wp2
        go_roundw
        case rel => exact ⟨k + 1, by omega, by go_num, K7, BB6⟩
        case measure => simp [intOf]; omega
      · have l1 : decide (f ≤ t) = false := decide_eq_false hc
        rw [if_neg hc] at hfo
        subst hfo
        have K7 := HV2.out.symm ▸ K5
        clear hx hdj hf hm hfb K B B5 R5 hc K5
        go_wp2
        go_roundw
        case rel => exact ⟨k + 1, by omega, by go_num, K7, BB5⟩
        case measure => simp [intOf]; omega
    · have hltB : decide ((k : Int) < (n : Int)) = false := by simp; omega
      obtain rfl : k = n := by omega
      have hle := cntT_le hs t
      rw [show min k (cntT hs t) = cntT hs t by omega] at K
      have hfb := full_ok HOK.out (k := cntT hs t) hle
      have C7 := Lib.hid (tokens_any K HOK.out.1 HOK.out.2.1 hfb (show 0 ≤ t ∧ t ≤ 6000 by have := HT.out; omega) HE.out)
      clear hfb
      go_wp2_with (fail)
      refine C7.out.mono ?_
      rintro e w6 ⟨rfl, m', rfl⟩
      go_wp2
      go_ret
      exact ⟨rfl, B.trans (below_drewN _ _)⟩
end Go.Proofs.Ytnloejcfakcpfaa
