/-
  Chapter 14's model: what is proved here is what ShapePulses and TokensAt return, and that they write nothing that was there. Condition: lengths up to 2^24.
-/
import Derived.Test.YtnloejcfakcpfaaShpB
namespace Go.Proofs.Ytnloejcfakcpfaa
open Go.RowKit

theorem intsS_app (k : IntKind) (a b : List Int) : ints k (a ++ b) = ints k a ++ ints k b := by simp [ints]
theorem lit_ownS (w : World) : Own (w.alloc (.cells #[] 3)) w.heap.size 3 (some ⟨w.heap.size, 0, none⟩) 0 0 (ints .i64 []) := World.ownsRow_lit w #[] 0 (Nat.le_refl _) (by unfold maxLen; omega) rfl
/-- What the model holds ahead of a frame. -/
def ShpS (r b : Int) (hs : List Duo) (k : Nat) (T a : Int) : Prop := T = tok r b (shS r b hs k).1 a ∧ a = (shS r b hs k).2
theorem shps_zero (r b : Int) (hs : List Duo) : ShpS r b hs 0 b 0 := ⟨(tok_zero r b).symm, rfl⟩
theorem shps_step {r b : Int} {hs : List Duo} (h : shOk r b hs) (hz : sizOk b hs) {k : Nat} (hk : k < hs.length) {T a f t x : Int} (hp : ShpS r b hs k T a) (hx : hs[k]? = some (f, t)) (hn : max a f = x) :
    (0 ≤ r * (x - a) ∧ r * (x - a) ≤ 40000) ∧ (0 ≤ T ∧ T ≤ 100) ∧ (0 ≤ a ∧ a ≤ 5000) ∧ (0 ≤ x ∧ x ≤ 5000) ∧ min b (T + r * (x - a)) = tok r b (shS r b hs k).1 x ∧ 0 ≤ tok r b (shS r b hs k).1 x ∧ x ≤ shT r b hs k ∧ shT r b hs k ≤ 5000 ∧ (∀ y, x ≤ y → y < shT r b hs k → tok r b (shS r b hs k).1 y < t) ∧ t ≤ tok r b (shS r b hs k).1 (shT r b hs k) ∧ ShpS r b hs (k + 1) (tok r b (shS r b hs k).1 (shT r b hs k) - t) (shT r b hs k) ∧ 1 ≤ t ∧ t ≤ 50 := by
  obtain ⟨hT, ha⟩ := hp
  have e := dj_atS hx
  have hpu := pu_at h.2.2 hk
  rw [e] at hpu
  obtain ⟨hf, ht⟩ := hpu
  dsimp only at hf ht
  have hr := h.1
  have hb := h.2.1
  obtain ⟨b1, b2, b3, b4⟩ := shp_bound h hz k (by omega)
  have hkn := h.2.2.2.2
  rw [← ha] at b2 b3 b4
  have hxb : a ≤ x ∧ x ≤ 5000 ∧ x - a ≤ 2000 := by omega
  have q0 : 0 ≤ r * (x - a) := Int.mul_nonneg (by omega) (by omega)
  have q1 : r * (x - a) ≤ 20 * 2000 := Int.mul_le_mul hr.2 (by omega) (by omega) (by omega)
  have hm := tok_on (r := r) (b := b) (f := (shS r b hs k).1) (a := a) (t := x) (by omega) hxb.1
  have T0 : 0 ≤ tok r b (shS r b hs k).1 a := by
    unfold tok
    generalize r * a = z at *
    omega
  have T1 := tok_le r b (shS r b hs k).1 a
  have T2 := tok_mono (r := r) (b := b) (f := (shS r b hs k).1) (a := a) (t := x) (by omega) hxb.1
  have eg : shT r b hs k = goAt r b (shS r b hs k).1 x t := by
    unfold shT
    rw [e, ← ha, ← hn, Int.max_comm f a]
  have g1 := goAt_ge (r := r) (b := b) (f := (shS r b hs k).1) (fr := x) (m := t) hr.1
  have hpass := shT_pass (r := r) (b := b) (hs := hs) hr.1 hz hk
  rw [e] at hpass
  refine ⟨⟨q0, by omega⟩, by rw [hT]; omega, by omega, by omega, by rw [hT]; exact hm, by omega, by rw [eg]; exact g1, (shT_bound h hz hk).2, fun y h1 h2 => ?_, hpass, ⟨?_, rfl⟩, ht.1, ht.2⟩
  · rw [eg] at h2
    exact goAt_before hr.1 h1 h2
  · rw [shS_succ, e]
    exact (tok_take (by omega)).symm

theorem shp_few (r b : Int) (hs : List Duo) : (shpI r b hs).length ≤ 60 := by
  unfold shpI
  split
  · rename_i h; rw [shpTo_len]; exact h.1.2.2.2.2
  · simp
set_option maxHeartbeats 8000000 in
theorem specShapePulses_r {A : Option Addr} {n c : Nat} {r b : Int} {hs : List Duo} {w : World} {L : List Int} (h : HasD w A n hs) (hn : n ≤ 16777216) (hL : shpI r b hs = L) :
    Calls Try.prog 27 #[.int .i64 r, .int .i64 b, .slice A n c] w fun e w' => ∃ A' n' c', e = .returned (.slice A' n' c') ∧ Own w' w.heap.size 3 A' n' c' (ints .i64 L) ∧ Below w.heap.size w w' := by
  obtain ⟨i0, hi, hz0, hz1, hz2⟩ := info_parts Try.infoInt
  have HLN := Lib.hid h.1
  have HL := Lib.hid hL
  clear hL
  obtain ⟨W1, hW1⟩ : ∃ W1, w.alloc (.cells #[] 3) = W1 := ⟨_, rfl⟩
  have O1 : Own W1 w.heap.size 3 (some ⟨w.heap.size, 0, none⟩) 0 0 (ints .i64 []) := hW1 ▸ lit_ownS w
  have B1 : Below w.heap.size w W1 := hW1 ▸ below_allocJ w _
  have h1 := h.bel B1
  go_enter Try.func27, Try.ntmps27
  go_wp2
  go_loop [8] (fun i => ∃ k : Nat, k ≤ n ∧ i = .int .i64 (k : Int) ∧ Hid (∀ z ∈ hs.take k, z.2 ≤ b)) (fun i => n - (intOf i).toNat)
  case atStart =>
    have : Hid (∀ z ∈ hs.take 0, z.2 ≤ b) := fun z hz => by simp at hz
    exact ⟨0, Nat.zero_le _, rfl, this⟩
  case round =>
    obtain ⟨k, hk, rfl, HA⟩ := hrel
    by_cases hlt : k < n
    · have hltB : decide ((k : Int) < (n : Int)) = true := by simp; omega
      obtain ⟨bb, o, f, t, rfl, hbl, hx, c0, c1⟩ := h1.at_ hlt
      by_cases ht : t ≤ b
      · have s1 : decide (t > b) = false := by simp; omega
        have s2 : decide (b < t) = false := by simp; omega
        have HA2 : Hid (∀ z ∈ hs.take (k + 1), z.2 ≤ b) := all_take HA.out hx ht
        clear hx ht
        go_wp2
        go_round
        case rel => exact ⟨k + 1, by omega, by go_num, HA2⟩
        case measure => simp [intOf]; omega
      · have s1 : decide (t > b) = true := by simp; omega
        have s2 : decide (b < t) = true := by simp; omega
        have HE := Lib.hid (show [] = L by rw [← HL.out]; unfold shpI; rw [if_neg (fun hh => ht (hh.2 _ (List.mem_of_getElem? hx)))])
        clear hx ht
        go_wp2
        go_ret
        exact ⟨_, _, _, rfl, HE.out ▸ O1, B1⟩
    · have hltB : decide ((k : Int) < (n : Int)) = false := by simp; omega
      obtain rfl : k = n := by omega
      have HZ := Lib.hid (show sizOk b hs from all_full HA.out HLN.out)
      by_cases hok : shOk r b hs
      rotate_left
      · have C := Lib.hid (l14Fits_b (c := c) h1 hn (decide_eq_false hok))
        have HE := Lib.hid (show [] = L by rw [← HL.out]; unfold shpI; rw [if_neg (fun hh => hok hh.1)])
        clear hok
        go_wp2_with (fail)
        refine C.out.mono ?_
        rintro e w' ⟨rfl, B2⟩
        go_wp2
        go_ret
        exact ⟨_, _, _, rfl, HE.out ▸ O1.bel B2, bel_trans B1 B2⟩
      have C := Lib.hid (l14Fits_b (c := c) h1 hn (decide_eq_true hok))
      have HE := Lib.hid (show shpTo r b hs k = L by rw [← HL.out, ← HLN.out]; unfold shpI; rw [if_pos ⟨hok, HZ.out⟩])
      have HOK := Lib.hid hok
      have HP0 : Hid (ShpS r b hs 0 b 0) := shps_zero r b hs
      clear hok
      go_wp2_with (fail)
      refine C.out.mono ?_
      rintro e w2 ⟨rfl, B2⟩
      have O2 := O1.bel B2
      have BB2 := bel_trans B1 B2
      have hlen := HLN.out
      clear O1 B1 B2 hW1 h1 hltB hlt hk
      go_wp2
      go_loopw [7, 9, 10, 11] (fun v t a i wr => ∃ (m : Nat) (T f : Int) (A' : Option Addr) (c' : Nat), m ≤ k ∧ i = .int .i64 (m : Int) ∧ t = .int .i64 T ∧ a = .int .i64 f ∧ v = .slice A' m c' ∧ Hid (ShpS r b hs m T f) ∧ Own wr w.heap.size 3 A' m c' (ints .i64 (shpTo r b hs m)) ∧ Below w.heap.size w wr) (fun _ _ _ i _ => k - (intOf i).toNat)
      case atStart => exact ⟨0, b, 0, _, 0, Nat.zero_le _, rfl, rfl, rfl, rfl, HP0, O2, BB2⟩
      case round =>
        clear O2 BB2
        obtain ⟨m, T, a, A2, c2, hm, rfl, rfl, rfl, rfl, HP, O2, B2⟩ := hrel
        have hge := B2.size
        by_cases hlt : m < k
        · have hltB : decide ((m : Int) < (k : Int)) = true := by simp; omega
          obtain ⟨bb, o, f, t, hA, hbl, hx, c0, c1⟩ := (h.bel B2).at_ hlt
          obtain ⟨x, hxx⟩ : ∃ x, max a f = x := ⟨_, rfl⟩
          have HST := Lib.hid (shps_step HOK.out HZ.out (by omega) HP.out hx hxx)
          obtain ⟨d, hd⟩ : ∃ d, x - a = d := ⟨_, rfl⟩
          rw [hd] at HST
          obtain ⟨q, hq⟩ : ∃ q, r * d = q := ⟨_, rfl⟩
          rw [hq] at HST
          obtain ⟨y, hy⟩ : ∃ y, T + q = y := ⟨_, rfl⟩
          rw [hy] at HST
          obtain ⟨u, hu⟩ : ∃ u, min b y = u := ⟨_, rfl⟩
          rw [hu] at HST
          have HT := Lib.hid (shpTo_succ r b hs m)
          obtain ⟨g, hg⟩ : ∃ g, shT r b hs m = g := ⟨_, rfl⟩
          rw [hg] at HST HT
          obtain ⟨F, hF⟩ : ∃ F, (shS r b hs m).1 = F := ⟨_, rfl⟩
          rw [hF] at HST
          obtain ⟨s1, s2, s3, s4, s5, s6, s7, s8, s9, s10, s11, s12⟩ := HST.out
          have hrr := HOK.out.1
          have hbb := HOK.out.2.1
          have w1 : IntKind.i64.wrap (x - a) = d := by rw [hd]; exact IntWalk.i64_in _ (by omega)
          have w2 : IntKind.i64.wrap (r * d) = q := by rw [hq]; exact IntWalk.i64_in _ (by omega)
          have w3 : IntKind.i64.wrap (T + q) = y := by rw [hy]; exact IntWalk.i64_in _ (by omega)
          have S5 := Lib.hid s5
          have S6 := Lib.hid s6
          have S9 := Lib.hid s9
          have S10 := Lib.hid s10
          have S11 := Lib.hid s11
          subst hA
          clear hx HST s1 s2 s5 s9 s10 s11 hd hq hy hg hF HP
          go_wp2
          go_loop [9, 12] (fun t' x' => ∃ (T' : Int) (z : Int), t' = .int .i64 T' ∧ x' = .int .i64 z ∧ x ≤ z ∧ z ≤ g ∧ Hid (T' = tok r b F z)) (fun _ x' => (g - intOf x').toNat)
          case atStart =>
            have h0 : Hid (u = tok r b F x) := S5.out
            exact ⟨u, x, rfl, rfl, Int.le_refl _, s7, h0⟩
          case round =>
            obtain ⟨T', z, rfl, rfl, z1, z2, HT'⟩ := hrel
            have e1 : 0 ≤ T' ∧ T' ≤ b := by
              have p1 := tok_mono (r := r) (b := b) (f := F) (a := x) (t := z) (by omega) z1
              have p2 := tok_le r b F z
              rw [HT'.out]; omega
            by_cases hzg : z < g
            · have hs' := S9.out z z1 hzg
              rw [← HT'.out] at hs'
              have l1 : decide (T' < t) = true := decide_eq_true hs'
              have nx := tok_next (r := r) (b := b) (f := F) (t := z + 1) (by omega)
              rw [show z + 1 - 1 = z by omega, ← HT'.out] at nx
              have v1 : IntKind.i64.wrap (T' + r) = T' + r := IntWalk.i64_in _ (by omega)
              have v2 : IntKind.i64.wrap (z + 1) = z + 1 := IntWalk.i64_in _ (by omega)
              obtain ⟨N, hN⟩ : ∃ N, min b (T' + r) = N := ⟨_, rfl⟩
              have HN : Hid (N = tok r b F (z + 1)) := hN.symm.trans nx
              clear hs' nx e1
              go_wp2
              go_round
              case rel => exact ⟨N, z + 1, rfl, by go_num, by omega, by omega, HN⟩
              case measure => simp [intOf]; omega
            · obtain rfl : z = g := by omega
              have hs' := S10.out
              rw [← HT'.out] at hs'
              have l1 : decide (T' < t) = false := decide_eq_false (by omega)
              have v1 : IntKind.i64.wrap (T' - t) = T' - t := IntWalk.i64_in _ (by omega)
              have n1 : -9223372036854775808 ≤ T' - t := by omega
              have n2 : T' - t ≤ 9223372036854775807 := by omega
              have HN : Hid (ShpS r b hs (m + 1) (T' - t) z) := by have := S11.out; rw [← HT'.out] at this; exact this
              clear hs' e1 hzg
              go_wp2_with (at_builtin; refine wpList_apps _ rfl (.tmp 79) (.tmp 81) 33 rfl w.heap.size 3 i0 (.int .i64 0) 8 Try.underlying33 hi hz0 hz1 hz2 rfl A2 m c2 _ rfl O2 1 1 #[.int .i64 z] rfl rfl (by simp [Value.oneCell']) (by decide) (by omega) (by decide) hge ?_; intro g5 c5 w5 O5 G5 B5 _)
              have O6 : Own w5 w.heap.size 3 (some ⟨g5, 0, none⟩) (m + 1) c5 (ints .i64 (shpTo r b hs (m + 1))) := by rw [HT.out, intsS_app]; exact O5
              have B6 := B2.trans B5
              go_roundw
              case rel => exact ⟨m + 1, _, _, _, _, by omega, by go_num, rfl, rfl, rfl, HN, O6, B6⟩
              case measure => simp [intOf]; omega
        · have hltB : decide ((m : Int) < (k : Int)) = false := by simp; omega
          obtain rfl : m = k := by omega
          go_wp2
          go_ret
          exact ⟨_, _, _, rfl, HE.out ▸ O2, B2⟩
end Go.Proofs.Ytnloejcfakcpfaa
