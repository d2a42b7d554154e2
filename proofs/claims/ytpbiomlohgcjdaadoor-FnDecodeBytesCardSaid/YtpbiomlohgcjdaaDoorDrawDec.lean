/-
  The draw of what is decoded: what is proved here is that bytes are drawn, and that nothing that was there is written. No condition.
-/
import Derived.Test.YtpbiomlohgcjdaaDoorCodeEnc
import Derived.Test.YtpbiomlohgcjdaaDoorMathCode
import Derived.Test.YtpbiomlohgcjdaaDoorDraw1
import Derived.Deep.RegionWith
namespace Go.Proofs.YtpbiomlohgcjdaaDoor
open Go.RowKit

theorem encB_u8s {zs : List Int} (hu : U8s zs) : U8s (encB zs) := by
  unfold encB
  split
  · intro z hz
    obtain ⟨i, hi⟩ := List.getElem?_of_mem hz
    have hil := (List.getElem?_eq_some_iff.1 hi).1
    rw [encFlat_length] at hil
    obtain ⟨b0, b1⟩ := nibAt_b zs i hu hil
    rw [encFlat_at zs i hil] at hi
    injection hi with hi
    have := encN_b _ b0 b1
    omega
  · intro z hz; cases hz
theorem rd_drew {w : World} {lo r p : Nat} (h : Rd w lo r p) : Rd w.drew lo r p := h.bel (below_drewN w 1)

theorem u8_wrap {s : Int} (h0 : 0 ≤ s) (h1 : s ≤ 255) : IntKind.u8.wrap s = s := by
  obtain ⟨a, rfl⟩ := Int.eq_ofNat_of_zero_le h0
  rw [u8_of]; omega

/-- What is drawn: bytes. -/
def OneB (w w' : World) (e : Ending) : Prop := ∃ A' n' c' xs, e = .returned (.slice A' n' c') ∧ Own w' w.heap.size 5 A' n' c' (ints .u8 xs) ∧ U8s xs ∧ n' ≤ 1201 ∧ Below w.heap.size w w'

set_option maxHeartbeats 4000000 in
theorem drawDecodeBytes_any {A : Option Addr} {n c : Nat} {zs : List Int} {w : World} (h : Has w A n (ints .u8 zs)) (hu : U8s zs) (hc : n ≤ c ∧ c ≤ maxLen) :
    Calls Tryd.prog 4 #[.slice A n c] w fun e w' => OneB w w' e := by
  obtain ⟨i0, hi, hz0, hz1, hz2⟩ := info_parts Tryd.infoU8
  go_enter Tryd.func4, Tryd.ntmps4
  go_wp2_with (fail)
  refine (open_any h hu hc).mono ?_
  rintro e w1 ⟨r, rfl, R1, B1⟩
  have hrl := R1.lt
  have s1 := B1.size
  go_wp2_with (fail)
  refine (l1Draw_any R1 (by omega)).mono ?_
  rintro e w2 ⟨A2, n2, c2, xs, p2, rfl, O2, hx, hn2, _, hp2, R2, G2⟩
  have C2 := bel_read B1 R1 G2
  have s2 := G2.size
  go_wp2_with (fail)
  refine (specEncodeBytes_any O2.has hx (by omega)).mono ?_
  rintro e w3 ⟨A3, n3, c3, rfl, O3, B3⟩
  have C3 := bel_trans C2 B3
  have R3 := R2.bel B3
  have s3 := B3.size
  have hn3 : n3 ≤ 1200 := by have q1 := O3.has.len; have q2 := encB_le xs; omega
  have hx3 := encB_u8s hx
  have hrl2 : r < w2.heap.size := by omega
  generalize encB xs = es at *
  clear O2 B3 R2 G2 C2 hx B1 R1
  go_wp2
  obtain ⟨wo, rfl⟩ : ∃ wo : World, wo = w3 := ⟨_, rfl⟩
  go_loopw [5] (fun i wr => ∃ k p ys, k ≤ n3 ∧ i = .int .i64 ((k : Nat) : Int) ∧ p ≤ p2 + 2 * k ∧ Own wr w2.heap.size 5 A3 n3 c3 (ints .u8 ys) ∧ U8s ys ∧ Rd wr w.heap.size r p ∧ Below w.heap.size w wr ∧ wo.heap.size ≤ wr.heap.size) (fun i _ => n3 - (intOf i).toNat)
  case atStart => exact ⟨0, p2, es, Nat.zero_le _, rfl, by omega, O3, hx3, R3, C3, Nat.le_refl _⟩
  case round =>
    obtain ⟨k, p, ys, hk, rfl, hp, O4, hy, R4, C4, s4⟩ := hrel
    by_cases hlt : k < n3
    · have hltB : decide ((k : Int) < (n3 : Int)) = true := by simp; omega
      go_wp2_with (fail)
      refine (pick_any R4 (by omega) (by omega)).mono ?_
      rintro e w5 ⟨v, rfl, hv, R5, G5⟩
      clear hv
      have O5 := O4.past hrl2 G5
      have C5 := bel_read C4 R4 G5
      have s5 := G5.size
      by_cases h0 : v = 0
      · subst h0
        obtain ⟨g, rfl, hg0, hg1⟩ := O5.head (by omega)
        obtain ⟨u, hu1, hd1, hf1⟩ := O5.at_ (k := k) hlt
        obtain ⟨z, hz⟩ : ∃ z, ys[k]? = some z := ⟨_, List.getElem?_eq_getElem (show k < ys.length by rw [O5.has.len]; exact hlt)⟩
        have HYZ := Lib.hid (show (ints .u8 ys)[k]? = some (.int .u8 z) by simp [ints, hz])
        rw [HYZ.out] at hu1
        obtain rfl : Value.int .u8 z = u := by injection hu1
        obtain ⟨z0, z1⟩ := hy z (List.mem_of_getElem? hz)
        have k0 : (0 : Int) ≤ (k : Int) := by omega
        have k1 : (k : Int) < (n3 : Int) := by omega
        have CP := Lib.hid (pick_any (m := 7) (w := w5.drew) (rd_drew R5) (by omega) (by omega))
        have O5d : Own w5.drew w2.heap.size 5 (some ⟨g, 0, none⟩) n3 c3 (ints .u8 ys) := O5.bel (below_drewN w5 1)
        clear hu1 hz
        go_wp2_with (fail)
        go_region_with (go_at_call 12; refine CP.out.mono ?_; rintro e w6 ⟨v6, rfl, ⟨hv6, hv7⟩, R6, G6⟩; obtain ⟨j, rfl⟩ := Int.eq_ofNat_of_zero_le hv6; have O6 := O5d.past hrl2 G6; obtain ⟨u6, hu6, hd6, hf6⟩ := O6.at_ (k := k) hlt; rw [HYZ.out] at hu6; obtain rfl : Value.int .u8 z = u6 := by injection hu6)
        all_goals
          have hj : j ≤ 6 := by omega
          have hpb := pow8_bound j (by omega)
          rw [u8_wrap hpb.1 hpb.2]
          have OX := O6.set_ k (.int .u8 (xor8 z (2 ^ j)))
          rw [ints_set] at OX
          have hyx := hy.set_ (k := k) (xor8_bound z (2 ^ j) ⟨z0, z1⟩ hpb)
          have RX : Rd (w6.setCell ⟨g, k, none⟩ (.int .u8 (xor8 z (2 ^ j)))) w.heap.size r (p + 1 + 1) := R6.grown (grown_set (World.grownBy.refl w6 (some g)) k _) (fun q hq => by injection hq with hq; omega)
          have CX : Below w.heap.size w (w6.setCell ⟨g, k, none⟩ (.int .u8 (xor8 z (2 ^ j)))) := (bel_read (C5.trans (below_drewN w5 1)) (rd_drew R5) G6).setCell (show w.heap.size ≤ g by omega) _
          have s6 : w5.heap.size ≤ w6.heap.size := G6.size
          clear hpb hv6 hv7
          go_wp2
          go_roundw
          case rel => exact ⟨k + 1, p + 1 + 1, _, by omega, by go_num, by omega, OX, hyx, RX, CX, by simp [World.setCell]; omega⟩
          case measure => simp [intOf]; omega
      · have h0b : (v == 0) = false := by simp [h0]
        go_wp2
        go_roundw
        case rel => exact ⟨k + 1, p + 1, ys, by omega, by go_num, by omega, O5, hy, R5, C5, by omega⟩
        case measure => simp [intOf]; omega
    · obtain rfl : k = n3 := by omega
      go_wp2_with (fail)
      refine (pick_any R4 (by omega) (by omega)).mono ?_
      rintro e w5 ⟨v, rfl, ⟨v0, v1⟩, R5, G5⟩
      have O5 := O4.past hrl2 G5
      have C5 := bel_read C4 R4 G5
      have s5 := G5.size
      by_cases h0 : v = 0
      · subst h0
        go_wp2_with (fail)
        refine (pick_any R5 (by omega) (by omega)).mono ?_
        rintro e w6 ⟨u, rfl, ⟨u0, u1⟩, R6, G6⟩
        have u2 : u ≤ 255 := by omega
        have O6 := O5.past hrl2 G6
        have C6 := bel_read C5 R5 G6
        have s6 := G6.size
        clear u1 v1
        go_wp2_with (at_builtin; refine wpList_apps _ rfl (.tmp 35) (.tmp 39) 22 rfl w2.heap.size 5 i0 (.int .u8 0) 1 Tryd.underlying22 hi hz0 hz1 hz2 rfl A3 k c3 _ rfl O6 1 1 #[.int .u8 u] rfl rfl (by simp [Value.oneCell']) (by decide) (by omega) (by decide) (by omega) ?_; intro g cap w7 O7 G7 B7 _)
        go_ret
        exact ⟨_, _, _, ys ++ [u], rfl, by rw [ints_app]; exact O7.mono (by omega), hy.snoc u0 u2, by omega, bel_grown C6 G7 (fun ad hA => by have := O6.ge (Nat.le_refl _) ad hA; omega)⟩
      · have h0b : (v == 0) = false := by simp [h0]
        by_cases h1 : v = 1
        · subst h1
          by_cases hk0 : k = 0
          · subst hk0
            go_wp2
            go_ret
            exact ⟨_, _, _, ys, rfl, O5.mono (by omega), hy, by omega, C5⟩
          · have hkB : decide ((0 : Int) < (k : Int)) = true := by simp; omega
            clear v1
            go_wp2_with (fail)
            refine (pick_any R5 (by omega) (by omega)).mono ?_
            rintro e w6 ⟨u, rfl, ⟨u0, u1⟩, R6, G6⟩
            obtain ⟨j, rfl⟩ := Int.eq_ofNat_of_zero_le u0
            have hj : j < k := by omega
            have O6 := O5.past hrl2 G6
            have C6 := bel_read C5 R5 G6
            have s6 := G6.size
            obtain ⟨g, rfl, hg0, hg1⟩ := O6.head (by omega)
            obtain ⟨x, hx1, hd1, hf1⟩ := O6.at_ (k := j) hj
            have OX := O6.set_ j (.int .u8 128)
            rw [ints_set] at OX
            clear hx1 u1 u0
            go_wp2
            go_ret
            exact ⟨_, _, _, _, rfl, OX.mono (by omega), hy.set_ (by omega), by omega, C6.setCell (show w.heap.size ≤ g by omega) _⟩
        · have h1b : (v == 1) = false := by simp [h1]
          go_wp2
          go_ret
          exact ⟨_, _, _, ys, rfl, O5.mono (by omega), hy, by omega, C5⟩
end Go.Proofs.YtpbiomlohgcjdaaDoor
