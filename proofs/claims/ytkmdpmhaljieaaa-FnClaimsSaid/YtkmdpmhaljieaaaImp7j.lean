/-
  Chapter 7's program, the claims of the tree and the way up: what is proved here is what treeClaims and WayUp return, in memory of their own, and that they write nothing that was there. Condition: lengths up to 2^24.
-/
import Derived.Test.YtkmdpmhaljieaaaImp7g
import Derived.Test.YtkmdpmhaljieaaaImp7h
namespace Go.Proofs.Ytkmdpmhaljieaaa
open Go.RowKit

theorem right_len (n : Nat) (cs : List Cab) : (rightN n cs).length = n := by simp [rightN]
theorem right_get {n : Nat} {cs : List Cab} {b : Nat} (hb : b < n) : (rightN n cs)[b]? = some [(rootN n cs b : Int), (gn (costsN n cs) b : Int), -1, -1] := by simp [rightN, hb]
set_option maxRecDepth 100000 in
set_option maxHeartbeats 8000000 in
theorem treeClaims_any {A : Option Addr} {n c m : Nat} {cs : List Cab} {w : World} (h : HasK w A n (cs.map triOf)) (hc : cabsOk m cs) (h1 : 1 ≤ m) (hm : m ≤ 8) (hn : n ≤ 20) :
    Calls Try.prog 67 #[.int .i64 (m : Int), .slice A n c] w fun e w' => ∃ g, e = .returned (.slice (some ⟨g, 0, none⟩) m m) ∧ OwnC w' w.heap.size (some ⟨g, 0, none⟩) m m (afterN m cs m) ∧ Below w.heap.size w w' := by
  obtain ⟨i0, hi, hz0, hz1, hz2⟩ := info_partsK Try.infoClaim
  have HL := Lib.hid (show cs.length = n by have := h.1; rwa [List.length_map] at this)
  have HFEW := Lib.hid (show cs.length ≤ 20 by rw [HL.out]; exact hn)
  have HC := Lib.hid hc
  have HNX := Lib.hid (next_right hc hm)
  have HBD := Lib.hid (show ∀ o, o < m → 0 ≤ gi (clmAt (rightN m cs) o) 1 ∧ gi (clmAt (rightN m cs) o) 1 ≤ 100000 from fun o ho => by
    rw [right_at ho]
    have := cost_le hc ho
    show 0 ≤ ((gn (costsN m cs) o : Nat) : Int) ∧ ((gn (costsN m cs) o : Nat) : Int) ≤ 100000
    omega)
  clear hc
  go_enter Try.func67, Try.ntmps67
  go_wp2_with (fail)
  refine (cableEnds_any h HC.out hm hn).mono ?_
  rintro e w1 ⟨g1, rfl, ⟨v1, O1⟩, B1⟩
  go_wp2_with (fail)
  refine (rootsOf_any (h.bel B1) HC.out hm hn).mono ?_
  rintro e w2 ⟨g2, rfl, O2, B2⟩
  have B12 := bel_trans B1 B2
  go_wp2_with (fail)
  refine (leastCosts_any (O1.has.bel B2) O2.has HC.out h1 hm HL.out hn).mono ?_
  rintro e w3 ⟨A3, c3, rfl, O3, B3⟩
  have B13 := bel_trans B12 B3
  have E3 := (O1.has.bel B2).bel B3
  have R3 := O2.bel B3
  have K3 := O3.has
  clear O1 O2 O3 B1 B2 B3 B12
  go_wp2_with (at_make; refine wpList_make_full _ rfl _ _ 66 rfl w3.heap.size 69 i0 (.agg #[.int .i64 0, .int .i64 0, .int .i64 0, .int .i64 0]) 4 Try.underlying66 hi hz0 hz1 .i64 .i64 _ _ m rfl rfl (by omega) (by omega) (by rw [hz2]; omega) (by unfold maxLen; omega) (Nat.le_refl _) ?_; intro w4 hown hgrow; have O4 := ownC_made hown (rightN m cs); have B4 : Below w3.heap.size w3 w4 := below_of_grown hgrow (Nat.le_refl _) (fun k hk => by cases hk); clear hown hgrow)
  go_loopw [23] (fun t wx => ∃ k : Nat, k ≤ m ∧ t = .int .i64 (k : Int) ∧ OwnC wx w3.heap.size (some ⟨w3.heap.size, 0, none⟩) m m (partC (rightN m cs) m k) ∧ Below w3.heap.size w3 wx) (fun t _ => m - (intOf t).toNat)
  case atStart => exact ⟨0, Nat.zero_le _, rfl, O4, B4⟩
  case round =>
    obtain ⟨k, hk, rfl, O5, B5⟩ := hrel
    by_cases hlt : k < m
    · have hltB : decide ((k : Int) < (m : Int)) = true := by simp; omega
      obtain ⟨e0, _⟩ := own_cI R3 hlt
      rw [rootsN_at hlt] at e0
      obtain ⟨b3, o3, rfl, hb3, e1⟩ := has_cI K3 hlt
      have BD : Below w3.heap.size w3 wr.drew := B5.trans (below_drewN _ 1)
      obtain ⟨D, hD⟩ : ∃ D, wr.drew = D := ⟨_, rfl⟩
      rw [hD] at BD
      have p0 := (BD.cell (p := ⟨g2, k, none⟩) (World.block_lt_of_cell? w3 _ e0)).trans e0
      have p1 := (BD.cell (p := ⟨b3, o3 + k, none⟩) hb3).trans e1
      have O6 : OwnC D w3.heap.size (some ⟨w3.heap.size, 0, none⟩) m m (partC (rightN m cs) m k) := hD ▸ O5.bel (below_drewN _ 1)
      obtain ⟨c0, c1, c2, c3⟩ := O6.at_ hlt
      have f1 := O6.frozen
      obtain ⟨O7, G7⟩ := O6.put k [(rootN m cs k : Int), (gn (costsN m cs) k : Int), -1, -1]
      rw [partC_set (right_len m cs) hlt (right_get hlt)] at O7
      have B7 := BD.trans (below_of_grown G7 BD.size (fun j hj => by injection hj with hj; omega))
      unfold put4 at O7 B7
      have q0 : gi [(rootN m cs k : Int), (gn (costsN m cs) k : Int), -1, -1] 0 = (rootN m cs k : Int) := rfl
      have q1 : gi [(rootN m cs k : Int), (gn (costsN m cs) k : Int), -1, -1] 1 = (gn (costsN m cs) k : Int) := rfl
      have q2 : gi [(rootN m cs k : Int), (gn (costsN m cs) k : Int), -1, -1] 2 = -1 := rfl
      have q3 : gi [(rootN m cs k : Int), (gn (costsN m cs) k : Int), -1, -1] 3 = -1 := rfl
      rw [q0, q1, q2, q3] at O7 B7
      have HO := Lib.hid O7
      have HB := Lib.hid B7
      clear O7 B7 G7 q0 q1 q2 q3 e0 e1 O5 B5
      go_wp2
      go_still_tail 11, (by kernel_rfl)
      go_wp2
      go_roundw
      case rel => exact ⟨k + 1, by omega, by go_num, HO.out, HB.out⟩
      case measure => simp [intOf]; omega
    · have hltB : decide ((k : Int) < (m : Int)) = false := by simp; omega
      obtain rfl : k = m := by omega
      rw [partC_done (right_len k cs)] at O5
      have B14 := bel_trans B13 B5
      have CN := Lib.hid (nextClaims_any (ca := k) (cb := k) (E3.bel B5) O5.has HC.out hm HFEW.out HBD.out)
      rw [HNX.out] at CN
      go_wp2_with (fail)
      refine CN.out.mono ?_
      rintro e w5 ⟨g5, rfl, O8, B8⟩
      have B15 := bel_trans B14 B8
      go_wp2
      go_ret
      exact ⟨_, rfl, O8.mono B14.size, B15⟩
set_option maxRecDepth 100000 in
set_option maxHeartbeats 8000000 in
theorem implWayUp_w {A : Option Addr} {n c : Nat} {ks : List Tri} {nz b : Int} {w : World} (h : HasK w A n ks) (hn : n ≤ 16777216) :
    Calls Try.prog 42 #[.int .i64 nz, .slice A n c, .int .i64 b] w fun e w' => ∃ A' n' c', e = .returned (.slice A' n' c') ∧ Own w' w.heap.size 3 A' n' c' (ints .i64 (wayI nz ks b)) ∧ Below w.heap.size w w' := by
  obtain ⟨i0, hi, hz0, hz1, hz2⟩ := info_parts Try.infoInt
  by_cases hv : kOk nz ks
  · have C1 := Lib.hid (implCablesValid_b (c := c) h hn (decide_eq_true hv))
    by_cases hb : 0 ≤ b ∧ b ≤ nz - 1
    · have N := kOk_yes hv
      generalize nz.toNat = m at N
      generalize ks.map cabOf = cs at N
      obtain ⟨x, rfl⟩ := Int.eq_ofNat_of_zero_le hb.1
      have hm := N.le
      have hp := N.pos
      have hx : x < m := by have := N.n_eq; omega
      have HE := Lib.hid (N.way hx)
      have hnn : n ≤ 20 := by have h1 := h.1; rw [N.ks_eq, List.length_map] at h1; have := N.few; omega
      have C2 := Lib.hid (fun W => isBridge_any (x : Int) nz W)
      rw [decide_eq_true hb] at C2
      obtain rfl := N.n_eq
      obtain rfl := N.ks_eq
      have HC := Lib.hid N.ok
      have HW0 := Lib.hid (show [] ++ wayF cs (costsN m cs) (gn (costsN m cs) x) x = wayN m cs x from rfl)
      have HLEN := Lib.hid (show (wayN m cs x).length ≤ 1000 by
        have h2 := wayF_len cs (costsN m cs) (gn (costsN m cs) x) x
        have h3 := cost_le HC.out hx
        unfold wayN; omega)
      have HEND := Lib.hid (show ∀ y, y < m → (upN cs (costsN m cs) y = none ∧ gi (clmAt (afterN m cs m) y) 2 = -1) ∨ ∃ i o, upN cs (costsN m cs) y = some i ∧ otherN (cab cs i) y = some o ∧ o < m ∧ gn (costsN m cs) o < gn (costsN m cs) y ∧ gi (clmAt (afterN m cs m) y) 2 = (o : Int) from fun y hy => by
        rcases after_end HC.out hm (Nat.le_refl m) hy with ⟨z, hcl⟩ | ⟨i, o, hu, ho, _, hcl⟩
        · exact Or.inl ⟨(up_none HC.out hm hy).2 z, by rw [hcl]; rfl⟩
        · obtain ⟨o', ho', hom, _, hlt⟩ := up_edge HC.out hu
          rw [ho] at ho'; injection ho' with ho'; subst ho'
          exact Or.inr ⟨i, o, hu, ho, hom, hlt, by rw [hcl]; rfl⟩)
      clear hv N hb
      generalize hwl : wayN m cs x = wl at *
      clear hwl
      go_enter Try.func42, Try.ntmps42
      go_wp2_with (fail)
      refine C1.out.mono ?_
      rintro e w1 ⟨rfl, B1⟩
      go_wp2_with (fail)
      refine (C2.out _).mono ?_
      rintro e w1' ⟨rfl, rfl⟩
      go_wp2_with (fail)
      refine (treeClaims_any (h.bel B1) HC.out hp hm hnn).mono ?_
      rintro e w2 ⟨g2, rfl, O2, B2⟩
      have B12 := bel_trans B1 B2
      have OX : Own (w2.alloc (.cells #[.int .i64 (x : Int)] 3)) w2.heap.size 3 (some ⟨w2.heap.size, 0, none⟩) 1 1 (cI ([] ++ [x])) := World.ownsRow_lit w2 #[.int .i64 (x : Int)] 1 (Nat.le_refl _) (by unfold maxLen; omega) rfl
      have BX : Below w2.heap.size w2 (w2.alloc (.cells #[.int .i64 (x : Int)] 3)) := (Below.refl _ _).alloc (Nat.le_refl _) _
      generalize hWX : w2.alloc (.cells #[.int .i64 (x : Int)] 3) = WX at OX BX
      generalize afterN m cs m = AF at *
      generalize costsN m cs = F at *
      clear C1 C2 B1 B2
      go_wp2
      go_loopw [2, 8] (fun tb v wx => ∃ (y f : Nat) (pre : List Nat) (A' : Option Addr) (q c' : Nat), y < m ∧ gn F y ≤ f ∧ q ≤ 1000 ∧ tb = .int .i64 (y : Int) ∧ v = .slice A' q c' ∧ Own wx w2.heap.size 3 A' q c' (cI (pre ++ [y])) ∧ Hid (pre ++ wayF cs F f y = wl) ∧ Below w2.heap.size w2 wx) (fun tb _ _ => gn F (intOf tb).toNat)
      case atStart => exact ⟨x, gn F x, [], _, 1, _, hx, Nat.le_refl _, by omega, rfl, rfl, OX, HW0, BX⟩
      case round =>
        obtain ⟨y, f, pre, A5, q5, c5, hy, hf, hq5, rfl, rfl, O5, HW, B5⟩ := hrel
        obtain ⟨k0, k1, k2, k3⟩ := (O2.bel B5).at_ hy
        rcases HEND.out y hy with ⟨hu, hz⟩ | ⟨i, o, hu, ho, hom, hlt, hz⟩
        · have HE2 := Lib.hid (show pre ++ [y] = wl by rw [← HW.out, wayF_none hu])
          rw [hz] at k2
          have hzB : ((-1 : Int) != -1) = false := rfl
          have B6 := bel_trans B12 B5
          clear hu hz
          go_wp2
          go_ret
          exact ⟨_, _, _, rfl, by rw [HE.out, ← HE2.out]; exact O5.mono B12.size, B6⟩
        · obtain ⟨f', rfl⟩ : ∃ f', f = f' + 1 := ⟨f - 1, by omega⟩
          have HE2 := Lib.hid (show (pre ++ [y]) ++ wayF cs F f' o = wl by rw [← HW.out, wayF_some hu ho]; simp)
          have hq6 : q5 + 1 ≤ 1000 := by
            have h1 := O5.has.1
            rw [cI_len] at h1
            have h2 := congrArg List.length HE2.out
            rw [List.length_append] at h2
            obtain ⟨l, hl⟩ := wayF_head cs F f' o
            rw [hl, List.length_cons] at h2
            have := HLEN.out
            omega
          rw [hz] at k2
          have hzB : ((o : Int) != -1) = true := by simp
          have s5 := B5.size
          clear hu ho hz
          go_wp2_with (at_builtin; refine wpList_apps _ rfl (.tmp 35) (.tmp 37) 33 rfl w2.heap.size 3 i0 (.int .i64 0) 8 Try.underlying33 hi hz0 hz1 hz2 rfl A5 q5 c5 _ rfl O5 1 1 #[.int .i64 (o : Int)] rfl rfl (by simp [Value.oneCell']) (by decide) (by omega) (by decide) (by omega) ?_; intro g7 c7 w7 O7 G7 B7 hat7)
          have O8 : Own w7 w2.heap.size 3 (some ⟨g7, 0, none⟩) (q5 + 1) c7 (cI ((pre ++ [y]) ++ [o])) := by rw [cI_app (pre ++ [y])]; exact O7
          have B8 := B5.trans B7
          have hfo : gn F o ≤ f' := by omega
          clear O7 G7 B7 hat7
          go_wp2
          go_roundw
          case rel => exact ⟨o, f', pre ++ [y], _, _, _, hom, hfo, hq6, rfl, rfl, O8, HE2, B8⟩
          case measure => simp [intOf]; omega
    · have HE := Lib.hid (show wayI nz ks b = [] by unfold wayI; rw [if_neg (fun hh => hb hh.2)])
      have C2 := Lib.hid (fun W => isBridge_any b nz W)
      rw [decide_eq_false hb] at C2
      clear hv hb
      go_enter Try.func42, Try.ntmps42
      go_wp2_with (fail)
      refine C1.out.mono ?_
      rintro e w1 ⟨rfl, B1⟩
      go_wp2_with (fail)
      refine (C2.out _).mono ?_
      rintro e w2 ⟨rfl, rfl⟩
      go_wp2
      go_ret
      exact ⟨_, _, _, rfl, by rw [HE.out]; exact World.ownsRow_nil _ _ _ _, B1⟩
  · have HE := Lib.hid (show wayI nz ks b = [] by unfold wayI; rw [if_neg (fun hh => hv hh.1)])
    have C1 := Lib.hid (implCablesValid_b (c := c) h hn (decide_eq_false hv))
    clear hv
    go_enter Try.func42, Try.ntmps42
    go_wp2_with (fail)
    refine C1.out.mono ?_
    rintro e w1 ⟨rfl, B1⟩
    go_wp2
    go_ret
    exact ⟨_, _, _, rfl, by rw [HE.out]; exact World.ownsRow_nil _ _ _ _, B1⟩
end Go.Proofs.Ytkmdpmhaljieaaa
