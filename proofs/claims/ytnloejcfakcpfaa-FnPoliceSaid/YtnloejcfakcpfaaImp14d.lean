/-
  Chapter 14's program: what is proved here is what PolicePulses and Conforms return, and that they write nothing that was there. Condition: lengths up to 2^24.
-/
import Derived.Test.YtnloejcfakcpfaaImp14c
import Derived.Test.YtnloejcfakcpfaaShpB
namespace Go.Proofs.Ytnloejcfakcpfaa
open Go.RowKit

/-- The state of a shaper ahead of a frame is within its bounds. -/
theorem full_ok {r b : Int} {hs : List Duo} (h : shOk r b hs) {k : Nat} (hk : k ≤ hs.length) : 0 ≤ fullTo r b hs k ∧ fullTo r b hs k ≤ 200000 := by
  have := full_bound h k hk
  omega
theorem own_keep14 {w w' : World} {lo n c g B : Nat} {e : TypeId} {xs : List Value} (h : Own w lo e (some ⟨g, 0, none⟩) n c xs) (hg : w.grownBy w' (some B)) (hne : g ≠ B) : Own w' lo e (some ⟨g, 0, none⟩) n c xs :=
  h.grown hg (fun a ha he => by injection ha with ha; subst ha; injection he with he; exact hne he)

set_option maxHeartbeats 4000000 in
theorem implPolicePulses_r {A : Option Addr} {n c : Nat} {r b : Int} {hs : List Duo} {w : World} {L : List Bool} (h : HasD w A n hs) (hn : n ≤ 16777216) (hL : polI r b hs = L) :
    Calls Try.prog 22 #[.int .i64 r, .int .i64 b, .slice A n c] w fun e w' => ∃ A' n' c', e = .returned (.slice A' n' c') ∧ Own w' w.heap.size 4 A' n' c' (bools L) ∧ Below w.heap.size w w' := by
  obtain ⟨i0, hi, hz0, hz1, hz2⟩ := info_parts Try.infoBool
  have HLN := Lib.hid h.1
  have HL := Lib.hid hL
  clear hL
  by_cases hok : shOk r b hs
  rotate_left
  · have C := Lib.hid (areShaped_b (c := c) h hn (decide_eq_false hok))
    have HE := Lib.hid (show [] = L by rw [← HL.out]; unfold polI; rw [if_neg hok])
    clear hok
    go_enter Try.func22, Try.ntmps22
    go_wp2_with (fail)
    refine C.out.mono ?_
    rintro e w' ⟨rfl, B2⟩
    go_wp2
    go_ret
    exact ⟨none, 0, 0, rfl, HE.out ▸ World.ownsRow_nil _ _ _ _, B2⟩
  have C := Lib.hid (areShaped_b (c := c) h hn (decide_eq_true hok))
  have HE := Lib.hid (show polTo r b hs n = L by rw [← HL.out, ← HLN.out]; unfold polI; rw [if_pos hok])
  have HOK := Lib.hid hok
  clear hok
  go_enter Try.func22, Try.ntmps22
  go_wp2_with (fail)
  refine C.out.mono ?_
  rintro e w2 ⟨rfl, B2⟩
  obtain ⟨S, hS⟩ : ∃ S, w2.heap.size = S := ⟨_, rfl⟩
  obtain ⟨w3, hw3⟩ : ∃ W, w2.alloc (.cells #[.int .i64 r, .int .i64 b, .int .i64 0] 65) = W := ⟨_, rfl⟩
  have K3 : ShRow w3 S r b 0 := hS ▸ hw3 ▸ shRow_alloc w2 r b 0
  have B3 : Below w2.heap.size w2 w3 := hw3 ▸ below_allocJ w2 _
  have BB3 := bel_trans B2 B3
  have hSw : w.heap.size ≤ S := by rw [← hS]; exact B2.size
  have hS3 := K3.lt
  have HW3 := Lib.hid hw3
  clear hw3
  go_wp2_with (at_make; rw [HW3.out]; refine wpList_make_full _ rfl _ _ 31 rfl w3.heap.size 4 i0 (.bool false) 1 Try.underlying31 hi hz0 hz1 .i64 .i64 _ _ n rfl rfl (by omega) (by omega) (by rw [hz2]; omega) (by unfold maxLen; omega) (Nat.le_refl _) ?_; intro w4 hown hgrow)
  rw [made_bools n] at hown
  have O4 : Own w4 w3.heap.size 4 (some ⟨w3.heap.size, 0, none⟩) n n (bools ((polTo r b hs n).take 0 ++ List.replicate (n - 0) false)) := hown
  have B4 : Below w3.heap.size w3 w4 := below_of_grown hgrow (Nat.le_refl _) (fun k hk => by cases hk)
  have K4 := K3.bel B4
  have BB4 := bel_trans BB3 B4
  have hlo := BB3.size
  obtain ⟨g, hg⟩ : ∃ g, w3.heap.size = g := ⟨_, rfl⟩
  rw [hg] at O4 hlo hS3 ⊢
  have hne : g ≠ S := by omega
  clear hown hgrow B3 B4 K3 BB3 B2 HW3 hS
  go_loopw [24] (fun i wr => ∃ k : Nat, k ≤ n ∧ i = .int .i64 (k : Int) ∧ ShRow wr S r b (fullTo r b hs k) ∧ Own wr g 4 (some ⟨g, 0, none⟩) n n (bools ((polTo r b hs n).take k ++ List.replicate (n - k) false)) ∧ Below w.heap.size w wr) (fun i _ => n - (intOf i).toNat)
  case atStart => exact ⟨0, Nat.zero_le _, rfl, K4, O4, BB4⟩
  case round =>
    clear O4 K4 BB4
    obtain ⟨k, hk, rfl, K, O, B⟩ := hrel
    by_cases hlt : k < n
    · have hltB : decide ((k : Int) < (n : Int)) = true := by simp; omega
      obtain ⟨bb, o, f, t, rfl, hbl, hx, c0, c1⟩ := (h.bel B).at_ hlt
      have hpu := pu_at HOK.out.2.2 (i := k) (by have := HLN.out; omega)
      rw [dj_atS hx] at hpu
      obtain ⟨hf, ht⟩ := hpu
      dsimp only at hf ht
      have hfo := full_ok HOK.out (k := k) (by have := HLN.out; omega)
      obtain ⟨p, hp⟩ : ∃ p, thr r b hs k = p := ⟨_, rfl⟩
      have HX := Lib.hid (set_take (polTo r b hs n) false k n (polTo_len _ _ _ _) hlt p (by rw [polTo_at _ _ _ hlt, hp]))
      obtain ⟨v, hv⟩ : ∃ v, fullTo r b hs (k + 1) = v := ⟨_, rfl⟩
      have hp2 : passB r b (fullTo r b hs k) (f, t) = p := by rw [← hp, ← dj_atS hx]; rfl
      have hv2 : polF r b (fullTo r b hs k) (f, t) = v := by rw [← hv, ← dj_atS hx]; rfl
      have HV := Lib.hid hv
      generalize fullTo r b hs k = F at K hfo hp2 hv2
      obtain ⟨W5, hW5⟩ : ∃ W, wr.alloc (.cells #[.int .i64 f, .int .i64 t] 29) = W := ⟨_, rfl⟩
      have B5 : Below wr.heap.size wr W5 := hW5 ▸ below_allocJ wr _
      have R5 : W5.heap[wr.heap.size]? = some (.cells #[.int .i64 f, .int .i64 t] 29 (0, 0)) := hW5 ▸ heap_alloc_new wr _
      obtain ⟨r0, r1⟩ := cells2D R5
      have K5 := K.bel B5
      have O5 := O.bel B5
      have BB5 := bel_trans B B5
      have C6 := Lib.hid (police_any K5 HOK.out.1 HOK.out.2.1 hfo (show 0 ≤ f ∧ f ≤ 6000 by omega) (show 0 ≤ t ∧ t ≤ 50 by omega) hp2 hv2)
      clear hx hf ht hfo hp hv hp2 hv2 K O B B5 R5
      go_wp2_with (fail)
      refine C6.out.mono ?_
      rintro e w6 ⟨rfl, K6, G6⟩
      have O6 := own_keep14 O5 G6 hne
      have BB6 := BB5.trans (below_of_grown G6 BB5.size (fun j hj => by injection hj with hj; omega))
      obtain ⟨u, hu, hd, hfz⟩ := O6.at_ hlt
      have O7 := O6.set_ k (.bool p)
      rw [bools_set, HX.out] at O7
      have B7 := BB6.setCell (p := ⟨g, k, none⟩) hlo (.bool p)
      have K7 : ShRow (w6.setCell ⟨g, k, none⟩ (.bool p)) S r b v := (heap_setCell_other w6 ⟨g, k, none⟩ S (.bool p) (by show S ≠ g; omega)).trans K6
      have K8 := HV.out.symm ▸ K7
      clear hu O6 K6 G6 O5 K5 BB5 BB6 K7
      go_wp2
      go_roundw
      case rel => exact ⟨k + 1, by omega, by go_num, K8, O7, B7⟩
      case measure => simp [intOf]; omega
    · have hltB : decide ((k : Int) < (n : Int)) = false := by simp; omega
      obtain rfl : k = n := by omega
      rw [List.take_of_length_le (by rw [polTo_len]; omega), Nat.sub_self, List.replicate_zero, List.append_nil] at O
      go_wp2
      go_ret
      exact ⟨_, _, _, rfl, HE.out ▸ O.mono hlo, B⟩
theorem mem_pol {r b : Int} {hs : List Duo} (h : shOk r b hs) : decide (false ∈ polI r b hs) = !decide (confP r b hs) := by
  rw [← decide_not, decide_eq_decide]
  unfold polI
  rw [if_pos h]
  constructor
  · intro hm hc
    obtain ⟨i, hi, he⟩ := List.mem_map.1 hm
    have := hc.2 i (by simpa using hi)
    rw [this] at he; cases he
  · intro hc
    refine Classical.byContradiction fun hm => hc ⟨h, fun k hk => ?_⟩
    cases hp : thr r b hs k with
    | true => rfl
    | false => exact absurd (List.mem_map.2 ⟨k, by simpa using hk, hp⟩) hm
set_option maxHeartbeats 2000000 in
theorem implConforms_b {A : Option Addr} {n c : Nat} {r b : Int} {hs : List Duo} {w : World} {v : Bool} (h : HasD w A n hs) (hn : n ≤ 16777216) (hv : decide (confP r b hs) = v) :
    Calls Try.prog 17 #[.int .i64 r, .int .i64 b, .slice A n c] w fun e w' => e = .returned (.bool v) ∧ Below w.heap.size w w' := by
  have HV := Lib.hid hv
  clear hv
  by_cases hok : shOk r b hs
  rotate_left
  · have C := Lib.hid (areShaped_b (c := c) h hn (decide_eq_false hok))
    have HE := Lib.hid (show decide (confP r b hs) = false from decide_eq_false fun hh => hok hh.1)
    clear hok
    go_enter Try.func17, Try.ntmps17
    go_wp2_with (fail)
    refine C.out.mono ?_
    rintro e w' ⟨rfl, B2⟩
    go_wp2
    go_ret
    exact ⟨ret_bool (HE.out.symm.trans HV.out), B2⟩
  have C := Lib.hid (areShaped_b (c := c) h hn (decide_eq_true hok))
  obtain ⟨L, hL⟩ : ∃ L, polI r b hs = L := ⟨_, rfl⟩
  have HM := Lib.hid (mem_pol hok)
  rw [hL] at HM
  have HN := Lib.hid (show L.length ≤ 60 by rw [← hL]; exact pol_len _ _ _)
  have HLL := Lib.hid hL
  clear hok hL
  go_enter Try.func17, Try.ntmps17
  go_wp2_with (fail)
  refine C.out.mono ?_
  rintro e w2 ⟨rfl, B2⟩
  have C2 := Lib.hid (implPolicePulses_r (c := c) (h.bel B2) hn HLL.out)
  go_wp2_with (fail)
  refine C2.out.mono ?_
  rintro e w3 ⟨A', n', c', rfl, O3, B3⟩
  have C3 := Lib.hid (containsB_b (c := c') (b := !v) (key := false) O3.has (by have := has_bools_len O3.has; have := HN.out; omega) (by rw [HM.out, HV.out]))
  go_wp2_with (fail)
  refine C3.out.mono ?_
  rintro e w4 ⟨rfl, rfl⟩
  go_wp2
  go_ret
  exact ⟨ret_bool (by simp), bel_trans B2 B3⟩
end Go.Proofs.Ytnloejcfakcpfaa
