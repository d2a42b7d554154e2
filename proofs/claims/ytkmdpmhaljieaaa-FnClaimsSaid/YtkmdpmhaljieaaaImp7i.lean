/-
  Chapter 7's program, NextClaims and ClaimsAfter: what is proved here is what they return, in memory of their own, and that they write nothing that was there. Condition: lengths up to 2^24.
-/
import Derived.Test.YtkmdpmhaljieaaaImp7g
import Derived.Test.YtkmdpmhaljieaaaImp7h
namespace Go.Proofs.Ytkmdpmhaljieaaa
open Go.RowKit

set_option maxRecDepth 100000 in
set_option maxHeartbeats 4000000 in
theorem claimsIn_no {A : Option Addr} {n c : Nat} {cl : List (List Int)} {w : World} (h : HasLI w A n cl) (h4 : ¬ ∀ x ∈ cl, clmOk x) (hn : n ≤ 1000) :
    Calls Try.prog 74 #[.slice A n c] w fun e w' => e = .returned (.tuple #[.slice none 0 0, .bool false]) ∧ Below w.heap.size w w' := by
  obtain ⟨i0, hi, hz0, hz1, hz2⟩ := info_partsK Try.infoClaim
  have HL := Lib.hid h.len
  have H4 := Lib.hid h4
  clear h4
  go_enter Try.func74, Try.ntmps74
  go_wp2_with (at_make; refine wpList_make_full _ rfl _ _ 66 rfl w.heap.size 69 i0 (.agg #[.int .i64 0, .int .i64 0, .int .i64 0, .int .i64 0]) 4 Try.underlying66 hi hz0 hz1 .i64 .i64 _ _ n rfl rfl (by omega) (by omega) (by rw [hz2]; omega) (by unfold maxLen; omega) (Nat.le_refl _) ?_; intro w1 hown hgrow; have O1 := ownC_made hown cl; have B1 : Below w.heap.size w w1 := below_of_grown hgrow (Nat.le_refl _) (fun k hk => by cases hk); clear hown hgrow)
  go_loopw [12] (fun t wx => ∃ k : Nat, k ≤ n ∧ t = .int .i64 (k : Int) ∧ Hid (∀ x ∈ cl.take k, clmOk x) ∧ OwnC wx w.heap.size (some ⟨w.heap.size, 0, none⟩) n n (partC cl n k) ∧ Below w.heap.size w wx) (fun t _ => n - (intOf t).toNat)
  case atStart =>
    have : Hid (∀ x ∈ cl.take 0, clmOk x) := fun x hx => by simp at hx
    exact ⟨0, Nat.zero_le _, rfl, this, O1, B1⟩
  case round =>
    obtain ⟨k, hk, rfl, HK, O2, B2⟩ := hrel
    by_cases hlt : k < n
    · have hltB : decide ((k : Int) < (n : Int)) = true := by simp; omega
      obtain ⟨b, o, X, q, d, x, rfl, hbl, hx, hcx, hqd, hX⟩ := h.at_ hlt
      have hxl := hX.len
      by_cases hok : clmOk x
      rotate_left
      · have hc1 := (B2.cell (p := ⟨b, o + k, none⟩) hbl).trans hcx
        by_cases hq4 : q = 4
        · subst hq4
          obtain ⟨b2, o2, hA2, hb2, e1⟩ := has_gi hX (i := 1) (by omega)
          subst hA2
          have r1 := (B2.cell (p := ⟨b2, o2 + 1, none⟩) hb2).trans e1
          have hno : gi x 1 < 0 ∨ ¬ gi x 1 < 0 ∧ 10000 < gi x 1 := by
            unfold clmOk at hok; omega
          clear hok hx e1 hcx
          generalize gi x 1 = z1 at *
          rcases hno with hz | ⟨hz, hz2⟩
          · have x0B : decide (z1 < 0) = true := decide_eq_true hz
            clear hz
            go_wp2
            go_ret2
            exact ⟨rfl, B2⟩
          · have x0B : decide (z1 < 0) = false := decide_eq_false hz
            have x1B : decide (z1 > 10000) = true := decide_eq_true hz2
            have x1C : decide (10000 < z1) = true := decide_eq_true hz2
            clear hz hz2
            go_wp2
            go_ret2
            exact ⟨rfl, B2⟩
        · have h4B : ((q : Int) != 4) = true := by simp; omega
          clear hok hx hcx hq4
          go_wp2
          go_ret2
          exact ⟨rfl, B2⟩
      have HK2 : Hid (∀ g ∈ cl.take (k + 1), clmOk g) := fun g hg => by
        rw [List.take_add_one, hx] at hg
        rcases List.mem_append.1 hg with hg | hg
        · exact HK.out g hg
        · obtain rfl : g = x := by simpa using hg
          exact hok
      obtain ⟨hx4, hx0, hx1⟩ := hok
      obtain rfl : q = 4 := by omega
      have BD : Below w.heap.size w wr.drew := B2.trans (below_drewN _ 1)
      obtain ⟨D, hD⟩ : ∃ D, wr.drew = D := ⟨_, rfl⟩
      rw [hD] at BD
      have hc1 := (B2.cell (p := ⟨b, o + k, none⟩) hbl).trans hcx
      obtain ⟨b1, o1, hA1, hb1, e0⟩ := has_gi hX (i := 0) (by omega)
      obtain ⟨b2, o2, hA2, _, e1⟩ := has_gi hX (i := 1) (by omega)
      obtain ⟨b3, o3, hA3, _, e2⟩ := has_gi hX (i := 2) (by omega)
      obtain ⟨b4, o4, hA4, _, e3⟩ := has_gi hX (i := 3) (by omega)
      subst hA1
      injection hA2 with hA2; injection hA2 with q1 q2; subst q1 q2
      injection hA3 with hA3; injection hA3 with q1 q2; subst q1 q2
      injection hA4 with hA4; injection hA4 with q1 q2; subst q1 q2
      have r1 := (B2.cell (p := ⟨b1, o1 + 1, none⟩) hb1).trans e1
      have p0 := (BD.cell (p := ⟨b1, o1 + 0, none⟩) hb1).trans e0
      have p1 := (BD.cell (p := ⟨b1, o1 + 1, none⟩) hb1).trans e1
      have p2 := (BD.cell (p := ⟨b1, o1 + 2, none⟩) hb1).trans e2
      have p3 := (BD.cell (p := ⟨b1, o1 + 3, none⟩) hb1).trans e3
      rw [Nat.add_zero] at p0
      have O3 : OwnC D w.heap.size (some ⟨w.heap.size, 0, none⟩) n n (partC cl n k) := hD ▸ O2.bel (below_drewN _ 1)
      obtain ⟨c0, c1, c2, c3⟩ := O3.at_ hlt
      have f1 := O3.frozen
      obtain ⟨O4, G4⟩ := O3.put k x
      rw [partC_set HL.out hlt hx] at O4
      have B4 := BD.trans (below_of_grown G4 BD.size (fun j hj => by injection hj with hj; omega))
      unfold put4 at O4 B4
      have x0B : decide (gi x 1 < 0) = false := by simp; omega
      have x1B : decide (gi x 1 > 10000) = false := by simp; omega
      have x1C : decide (10000 < gi x 1) = false := by simp; omega
      have HO := Lib.hid O4
      have HB := Lib.hid B4
      generalize gi x 0 = z0 at *
      generalize gi x 1 = z1 at *
      generalize gi x 2 = z2 at *
      generalize gi x 3 = z3 at *
      clear hx O4 B4 G4 e0 e1 e2 e3 hcx
      go_wp2
      go_still_tail 15, (by kernel_rfl)
      go_wp2
      go_roundw
      case rel => exact ⟨k + 1, by omega, by go_num, HK2, HO.out, HB.out⟩
      case measure => simp [intOf]; omega
    · have hltB : decide ((k : Int) < (n : Int)) = false := by simp; omega
      obtain rfl : k = n := by omega
      exact (H4.out (fun x hx => HK.out x (by rw [List.take_of_length_le (by rw [HL.out]; omega)]; exact hx))).elim
set_option maxHeartbeats 4000000 in
theorem implNextClaims_w {A B : Option Addr} {n c m d : Nat} {ks : List Tri} {cl : List (List Int)} {nz : Int} {w : World} (h : HasK w A n ks) (hl : HasLI w B m cl) (hn : n ≤ 16777216) (hm : m ≤ 16777216) :
    Calls Try.prog 36 #[.int .i64 nz, .slice A n c, .slice B m d] w fun e w' => ∃ A' n' c', e = .returned (.slice A' n' c') ∧ OwnLI w' w.heap.size A' n' c' (nextI nz ks cl) ∧ Below w.heap.size w w' := by
  have HLL := Lib.hid hl.len
  by_cases hv : kOk nz ks
  · have C1 := Lib.hid (implCablesValid_b (c := c) h hn (decide_eq_true hv))
    have hz : 1 ≤ nz ∧ nz ≤ 8 := hv.1
    by_cases hmn : (m : Int) = nz
    · subst hmn
      have hmB : ((m : Int) != (m : Int)) = false := by simp
      have hm8 : m ≤ 8 := by omega
      have hm1000 : m ≤ 1000 := by omega
      have N := kOk_yes hv
      have hmm : (m : Int).toNat = m := rfl
      rw [hmm] at N
      generalize ks.map cabOf = cs at N
      have hnn : n ≤ 20 := by have h1 := h.1; rw [N.ks_eq, List.length_map] at h1; have := N.few; omega
      have HFEW := Lib.hid N.few
      obtain rfl := N.ks_eq
      have HC := Lib.hid N.ok
      by_cases hok : ∀ x ∈ cl, clmOk x
      · have HE := Lib.hid (N.next HLL.out hok)
        have HOK := Lib.hid hok
        have HBD := Lib.hid (show ∀ o, o < m → 0 ≤ gi (clmAt cl o) 1 ∧ gi (clmAt cl o) 1 ≤ 100000 from fun o ho => by
          have hx := List.getElem?_eq_getElem (show o < cl.length by rw [HLL.out]; exact ho)
          have h1 := hok _ (List.mem_of_getElem? hx)
          rw [clm_at' hx]
          unfold clmOk at h1; omega)
        clear hok hv hz N hmm
        go_enter Try.func36, Try.ntmps36
        go_wp2_with (fail)
        refine C1.out.mono ?_
        rintro e w1 ⟨rfl, B1⟩
        go_wp2_with (fail)
        refine (claimsIn_yes (c := d) (hl.bel B1) HOK.out hm1000).mono ?_
        rintro e w2 ⟨g2, rfl, O2, B2⟩
        have B12 := bel_trans B1 B2
        go_wp2_with (fail)
        refine (cableEnds_any (h.bel B12) HC.out hm8 hnn).mono ?_
        rintro e w3 ⟨g3, rfl, ⟨v3, O3⟩, B3⟩
        have B13 := bel_trans B12 B3
        go_wp2_with (fail)
        refine (nextClaims_any O3.has (O2.has.bel B3) HC.out hm8 HFEW.out HBD.out).mono ?_
        rintro e w4 ⟨g4, rfl, O4, B4⟩
        have B14 := bel_trans B13 B4
        go_wp2_with (fail)
        refine (claimLists_any O4.has nextN_four hm1000).mono ?_
        rintro e w5 ⟨g5, rfl, O5, B5⟩
        have B15 := bel_trans B14 B5
        go_wp2
        go_ret
        exact ⟨_, _, _, rfl, by rw [HE.out]; exact O5.mono B14.size, B15⟩
      · have HE := Lib.hid (show nextI (m : Int) (cs.map triOf) cl = [] by unfold nextI; rw [if_neg (fun hh => hok hh.2.2)])
        have HOK := Lib.hid hok
        clear hok hv hz N hmm
        go_enter Try.func36, Try.ntmps36
        go_wp2_with (fail)
        refine C1.out.mono ?_
        rintro e w1 ⟨rfl, B1⟩
        go_wp2_with (fail)
        refine (claimsIn_no (c := d) (hl.bel B1) HOK.out hm1000).mono ?_
        rintro e w2 ⟨rfl, B2⟩
        have B12 := bel_trans B1 B2
        go_wp2
        go_ret
        exact ⟨_, _, _, rfl, by rw [HE.out]; exact ownLI_nil _ _, B12⟩
    · have hmB : ((m : Int) != nz) = true := by simp; exact hmn
      have HE := Lib.hid (show nextI nz ks cl = [] by unfold nextI; rw [if_neg (fun hh => hmn (by rw [← hh.2.1, HLL.out]))])
      clear hmn hv hz
      go_enter Try.func36, Try.ntmps36
      go_wp2_with (fail)
      refine C1.out.mono ?_
      rintro e w1 ⟨rfl, B1⟩
      go_wp2
      go_ret
      exact ⟨_, _, _, rfl, by rw [HE.out]; exact ownLI_nil _ _, B1⟩
  · have HE := Lib.hid (show nextI nz ks cl = [] by unfold nextI; rw [if_neg (fun hh => hv hh.1)])
    have C1 := Lib.hid (implCablesValid_b (c := c) h hn (decide_eq_false hv))
    clear hv
    go_enter Try.func36, Try.ntmps36
    go_wp2_with (fail)
    refine C1.out.mono ?_
    rintro e w1 ⟨rfl, B1⟩
    go_wp2
    go_ret
    exact ⟨_, _, _, rfl, by rw [HE.out]; exact ownLI_nil _ _, B1⟩
set_option maxHeartbeats 4000000 in
theorem implClaimsAfter_w {A : Option Addr} {n c : Nat} {ks : List Tri} {nz r : Int} {w : World} (h : HasK w A n ks) (hn : n ≤ 16777216) :
    Calls Try.prog 32 #[.int .i64 nz, .slice A n c, .int .i64 r] w fun e w' => ∃ A' n' c', e = .returned (.slice A' n' c') ∧ OwnLI w' w.heap.size A' n' c' (afterI nz ks r) ∧ Below w.heap.size w w' := by
  by_cases hv : kOk nz ks
  · have C1 := Lib.hid (implCablesValid_b (c := c) h hn (decide_eq_true hv))
    by_cases hr : 0 ≤ r ∧ r ≤ 100
    · obtain ⟨R, rfl⟩ := Int.eq_ofNat_of_zero_le hr.1
      have hR : R ≤ 100 := by omega
      have N := kOk_yes hv
      generalize nz.toNat = m at N
      generalize ks.map cabOf = cs at N
      have hm8 := N.le
      have hm1000 : m ≤ 1000 := by omega
      have HE := Lib.hid (N.after hR)
      have hnn : n ≤ 20 := by have h1 := h.1; rw [N.ks_eq, List.length_map] at h1; have := N.few; omega
      have HFEW := Lib.hid N.few
      obtain rfl := N.n_eq
      obtain rfl := N.ks_eq
      have HC := Lib.hid N.ok
      have HBD := Lib.hid (show ∀ k, k ≤ R → ∀ o, o < m → 0 ≤ gi (clmAt (afterN m cs k) o) 1 ∧ gi (clmAt (afterN m cs k) o) 1 ≤ 100000 from fun k hk o ho => by
        obtain ⟨_, _, _, _, h4, h5⟩ := after_low HC.out k o ho
        omega)
      have HS := Lib.hid (show ∀ k, nextN m cs (afterN m cs k) = afterN m cs (k + 1) from fun k => rfl)
      have HZ := Lib.hid (show afterN m cs 0 = firstL m from rfl)
      have HF := Lib.hid (afterN_four (n := m) (cs := cs) R)
      have r0B : decide ((R : Int) < 0) = false := by simp
      have r1B : decide ((R : Int) > 100) = false := by simp; omega
      have r1C : decide (100 < (R : Int)) = false := by simp; omega
      clear hv hr N
      go_enter Try.func32, Try.ntmps32
      go_wp2_with (fail)
      refine C1.out.mono ?_
      rintro e w1 ⟨rfl, B1⟩
      go_wp2_with (fail)
      refine (cableEnds_any (h.bel B1) HC.out hm8 hnn).mono ?_
      rintro e w2 ⟨g2, rfl, ⟨v2, O2⟩, B2⟩
      have B12 := bel_trans B1 B2
      go_wp2_with (fail)
      refine (firstClaims_any hm8).mono ?_
      rintro e w3 ⟨g3, rfl, O3, B3⟩
      have B13 := bel_trans B12 B3
      have E3 := O2.has.bel B3
      rw [← HZ.out] at O3
      have O3' := O3.mono B12.size
      clear O3 O2
      go_wp2
      go_loopw [8, 27] (fun v t wx => ∃ k g : Nat, k ≤ R ∧ t = .int .i64 (k : Int) ∧ v = .slice (some ⟨g, 0, none⟩) m m ∧ OwnC wx w.heap.size (some ⟨g, 0, none⟩) m m (afterN m cs k) ∧ Below w3.heap.size w3 wx) (fun _ t _ => R - (intOf t).toNat)
      case atStart => exact ⟨0, g3, Nat.zero_le _, rfl, rfl, O3', Below.refl _ _⟩
      case round =>
        obtain ⟨k, g, hk, rfl, rfl, O4, B4⟩ := hrel
        by_cases hlt : k < R
        · have hltB : decide ((k : Int) < (R : Int)) = true := by simp; omega
          have CN := Lib.hid (nextClaims_any (ca := m) (cb := m) (E3.bel B4) O4.has HC.out hm8 HFEW.out (HBD.out k hk))
          rw [HS.out] at CN
          have s4 := (B13.trans (B4.mono B13.size)).size
          go_wp2_with (fail)
          refine CN.out.mono ?_
          rintro e w5 ⟨g5, rfl, O5, B5⟩
          have O6 := O5.mono s4
          have B6 := bel_trans B4 B5
          go_wp2
          go_roundw
          case rel => exact ⟨k + 1, g5, by omega, by go_num, rfl, O6, B6⟩
          case measure => simp [intOf]; omega
        · have hltB : decide ((k : Int) < (R : Int)) = false := by simp; omega
          obtain rfl : k = R := by omega
          have B14 := B13.trans (B4.mono B13.size)
          go_wp2_with (fail)
          refine (claimLists_any O4.has HF.out hm1000).mono ?_
          rintro e w5 ⟨g5, rfl, O5, B5⟩
          have B15 := bel_trans B14 B5
          go_wp2
          go_ret
          exact ⟨_, _, _, rfl, by rw [HE.out]; exact O5.mono B14.size, B15⟩
    · have HE := Lib.hid (show afterI nz ks r = [] by unfold afterI; rw [if_neg (fun hh => hr hh.2)])
      by_cases h0 : r < 0
      · have r0B : decide (r < 0) = true := decide_eq_true h0
        clear hr hv h0
        go_enter Try.func32, Try.ntmps32
        go_wp2_with (fail)
        refine C1.out.mono ?_
        rintro e w1 ⟨rfl, B1⟩
        go_wp2
        go_ret
        exact ⟨_, _, _, rfl, by rw [HE.out]; exact ownLI_nil _ _, B1⟩
      · have r0B : decide (r < 0) = false := decide_eq_false h0
        have r1B : decide (r > 100) = true := decide_eq_true (by omega)
        have r1C : decide (100 < r) = true := decide_eq_true (by omega)
        clear hr hv h0
        go_enter Try.func32, Try.ntmps32
        go_wp2_with (fail)
        refine C1.out.mono ?_
        rintro e w1 ⟨rfl, B1⟩
        go_wp2
        go_ret
        exact ⟨_, _, _, rfl, by rw [HE.out]; exact ownLI_nil _ _, B1⟩
  · have HE := Lib.hid (show afterI nz ks r = [] by unfold afterI; rw [if_neg (fun hh => hv hh.1)])
    have C1 := Lib.hid (implCablesValid_b (c := c) h hn (decide_eq_false hv))
    clear hv
    go_enter Try.func32, Try.ntmps32
    go_wp2_with (fail)
    refine C1.out.mono ?_
    rintro e w1 ⟨rfl, B1⟩
    go_wp2
    go_ret
    exact ⟨_, _, _, rfl, by rw [HE.out]; exact ownLI_nil _ _, B1⟩
end Go.Proofs.Ytkmdpmhaljieaaa
