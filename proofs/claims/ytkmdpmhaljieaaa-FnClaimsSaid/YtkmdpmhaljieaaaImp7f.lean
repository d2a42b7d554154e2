/-
  Chapter 7's program, slices of claims: what is proved here is what firstClaims, claimsIn and claimLists return, in memory of their own, and that they write nothing that was there. Condition: lengths up to 2^24.
-/
import Derived.Test.YtkmdpmhaljieaaaImp7e
import Derived.Test.YtkmdpmhaljieaaaCabF
namespace Go.Proofs.Ytkmdpmhaljieaaa
open Go.RowKit

theorem clm_at' {cl : List (List Int)} {o : Nat} {x : List Int} (h : cl[o]? = some x) : clmAt cl o = x := by unfold clmAt; rw [List.getD_eq_getElem?_getD, h]; rfl
def zero4 : List Int := [0, 0, 0, 0]
def partC (cl : List (List Int)) (m k : Nat) : List (List Int) := cl.take k ++ List.replicate (m - k) zero4
theorem partC_zero (cl : List (List Int)) (m : Nat) : partC cl m 0 = List.replicate m zero4 := by simp [partC]
theorem partC_set {cl : List (List Int)} {m k : Nat} {x : List Int} (hl : cl.length = m) (hk : k < m) (hx : cl[k]? = some x) : (partC cl m k).set k x = partC cl m (k + 1) := set_take cl zero4 k m hl hk x hx
theorem partC_done {cl : List (List Int)} {m : Nat} (hl : cl.length = m) : partC cl m m = cl := by simp [partC, List.take_of_length_le (Nat.le_of_eq hl)]
theorem ownC_made {w : World} {lo g m : Nat} (h : w.ownsRow lo 69 4 (.slice (some ⟨g, 0, none⟩) m m) m (madeCells (Value.cells (.agg #[.int .i64 0, .int .i64 0, .int .i64 0, .int .i64 0])) (m * 4)).toList) (cl : List (List Int)) : OwnC w lo (some ⟨g, 0, none⟩) m m (partC cl m 0) := by
  rw [partC_zero]; rw [made_zeros4] at h; exact h
set_option maxHeartbeats 4000000 in
theorem firstClaims_any {m : Nat} {w : World} (h8 : m ≤ 8) :
    Calls Try.prog 71 #[.int .i64 (m : Int)] w fun e w' => ∃ g, e = .returned (.slice (some ⟨g, 0, none⟩) m m) ∧ OwnC w' w.heap.size (some ⟨g, 0, none⟩) m m (firstL m) ∧ Below w.heap.size w w' := by
  obtain ⟨i0, hi, hz0, hz1, hz2⟩ := info_partsK Try.infoClaim
  go_enter Try.func71, Try.ntmps71
  go_wp2_with (at_make; refine wpList_make_full _ rfl _ _ 66 rfl w.heap.size 69 i0 (.agg #[.int .i64 0, .int .i64 0, .int .i64 0, .int .i64 0]) 4 Try.underlying66 hi hz0 hz1 .i64 .i64 _ _ m rfl rfl (by omega) (by omega) (by rw [hz2]; omega) (by unfold maxLen; omega) (Nat.le_refl _) ?_; intro w1 hown hgrow; have O1 := ownC_made hown (firstL m); have B1 : Below w.heap.size w w1 := below_of_grown hgrow (Nat.le_refl _) (fun k hk => by cases hk); clear hown hgrow)
  go_loopw [9] (fun t wx => ∃ k : Nat, k ≤ m ∧ t = .int .i64 (k : Int) ∧ OwnC wx w.heap.size (some ⟨w.heap.size, 0, none⟩) m m (partC (firstL m) m k) ∧ Below w.heap.size w wx) (fun t _ => m - (intOf t).toNat)
  case atStart => exact ⟨0, Nat.zero_le _, rfl, O1, B1⟩
  case round =>
    obtain ⟨k, hk, rfl, O2, B2⟩ := hrel
    by_cases hlt : k < m
    · have hltB : decide ((k : Int) < (m : Int)) = true := by simp; omega
      obtain ⟨c0, c1, c2, c3⟩ := O2.at_ hlt
      have f1 := O2.frozen
      obtain ⟨O3, G3⟩ := O2.put k (clm0 k)
      rw [partC_set (firstL_len m) hlt (show (firstL m)[k]? = some (clm0 k) by simp [firstL, hlt])] at O3
      have B3 := B2.trans (below_of_grown G3 B2.size (fun j hj => by injection hj with hj; omega))
      unfold put4 at O3 B3
      have g0 : gi (clm0 k) 0 = (k : Int) := rfl
      have g1 : gi (clm0 k) 1 = 0 := rfl
      have g2 : gi (clm0 k) 2 = -1 := rfl
      have g3 : gi (clm0 k) 3 = -1 := rfl
      rw [g0, g1, g2, g3] at O3 B3
      have HO := Lib.hid O3
      have HB := Lib.hid B3
      clear O3 B3 G3 g0 g1 g2 g3
      go_wp2
      go_roundw
      case rel => exact ⟨k + 1, by omega, by go_num, HO.out, HB.out⟩
      case measure => simp [intOf]; omega
    · have hltB : decide ((k : Int) < (m : Int)) = false := by simp; omega
      obtain rfl : k = m := by omega
      rw [partC_done (firstL_len k)] at O2
      go_wp2
      go_ret
      exact ⟨_, rfl, O2, B2⟩
set_option maxRecDepth 100000 in
set_option maxHeartbeats 4000000 in
theorem claimLists_any {A : Option Addr} {n c : Nat} {cl : List (List Int)} {w : World} (h : HasC w A n cl) (h4 : ∀ x ∈ cl, x.length = 4) (hn : n ≤ 1000) :
    Calls Try.prog 73 #[.slice A n c] w fun e w' => ∃ g, e = .returned (.slice (some ⟨g, 0, none⟩) n n) ∧ OwnLI w' w.heap.size (some ⟨g, 0, none⟩) n n cl ∧ Below w.heap.size w w' := by
  obtain ⟨i0, hi, hz0, hz1, hz2⟩ := info_parts Try.infoSlI
  have HL := Lib.hid h.1
  have H4 := Lib.hid h4
  clear h4
  go_enter Try.func73, Try.ntmps73
  go_wp2_with (at_make; refine wpList_make_full _ rfl _ _ 36 rfl w.heap.size 33 i0 (.slice none 0 0) 1 Try.underlying36 hi hz0 hz1 .i64 .i64 _ _ n rfl rfl (by omega) (by omega) (by rw [hz2]; omega) (by unfold maxLen; omega) (Nat.le_refl _) ?_; intro w1 hown hgrow; rw [made_nils] at hown; have hL0 := ownLI_made hown; have B1 : Below w.heap.size w w1 := below_of_grown hgrow (Nat.le_refl _) (fun k hk => by cases hk); clear hown hgrow)
  go_loopw [11] (fun t wx => ∃ k : Nat, k ≤ n ∧ t = .int .i64 (k : Int) ∧ OwnLI wx w.heap.size (some ⟨w.heap.size, 0, none⟩) n n (cl.take k ++ List.replicate (n - k) []) ∧ Below w.heap.size w wx) (fun t _ => n - (intOf t).toNat)
  case atStart => exact ⟨0, Nat.zero_le _, rfl, by simpa using hL0, B1⟩
  case round =>
    obtain ⟨k, hk, rfl, L2, B2⟩ := hrel
    have s2 := B2.size
    by_cases hlt : k < n
    · have hltB : decide ((k : Int) < (n : Int)) = true := by simp; omega
      obtain ⟨b, o, rfl, d0, d1, d2, d3⟩ := (h.bel B2).2 k hlt
      obtain ⟨x, hx⟩ : ∃ x, cl[k]? = some x := ⟨_, List.getElem?_eq_getElem (by rw [HL.out]; exact hlt)⟩
      have hcx := clm_at' hx
      have hx4 := H4.out x (List.mem_of_getElem? hx)
      rw [hcx] at d0 d1 d2 d3
      have HST := Lib.hid (set_take cl [] k n HL.out hlt x hx)
      have BA := (Below.refl wr.heap.size wr).alloc (Nat.le_refl _) (.cells #[.int .i64 (gi x 0), .int .i64 (gi x 1), .int .i64 (gi x 2), .int .i64 (gi x 3)] 69)
      obtain ⟨y0, y1, y2, y3⟩ := cells4 (heap_alloc_new wr (.cells #[.int .i64 0, .int .i64 0, .int .i64 0, .int .i64 0] 69))
      obtain ⟨x0, x1, x2, x3⟩ := cells4 (heap_alloc_new wr (.cells #[.int .i64 (gi x 0), .int .i64 (gi x 1), .int .i64 (gi x 2), .int .i64 (gi x 3)] 69))
      generalize hWA : wr.alloc (.cells #[.int .i64 (gi x 0), .int .i64 (gi x 1), .int .i64 (gi x 2), .int .i64 (gi x 3)] 69) = wa at BA x0 x1 x2 x3
      have LA := L2.bel BA
      have BW := B2.trans (BA.mono s2)
      clear hx hcx
      go_wp2_with (fail)
      refine (numbers_any x hx4 wa).mono ?_
      rintro e w3 ⟨A3, rfl, O3, B3⟩
      have P3 := OwnLI.put LA B3 (BW.size) O3 hlt
      obtain ⟨vs, hv⟩ := LA.bel B3
      obtain ⟨u, hu, hd, hf⟩ := hv.1.at_ hlt
      rw [HST.out] at P3
      have BY := (BW.trans (B3.mono BW.size)).setCell (p := ⟨w.heap.size, k, none⟩) (Nat.le_refl _) (.slice A3 4 4)
      clear hu hv
      go_wp2
      go_roundw
      case rel => exact ⟨k + 1, by omega, by go_num, P3, BY⟩
      case measure => simp [intOf]; omega
    · have hltB : decide ((k : Int) < (n : Int)) = false := by simp; omega
      obtain rfl : k = n := by omega
      rw [Nat.sub_self, List.take_of_length_le (by rw [HL.out]; omega)] at L2
      go_wp2
      go_ret
      exact ⟨_, rfl, by simpa using L2, B2⟩
set_option maxRecDepth 100000 in
set_option maxHeartbeats 4000000 in
theorem claimsIn_yes {A : Option Addr} {n c : Nat} {cl : List (List Int)} {w : World} (h : HasLI w A n cl) (h4 : ∀ x ∈ cl, clmOk x) (hn : n ≤ 1000) :
    Calls Try.prog 74 #[.slice A n c] w fun e w' => ∃ g, e = .returned (.tuple #[.slice (some ⟨g, 0, none⟩) n n, .bool true]) ∧ OwnC w' w.heap.size (some ⟨g, 0, none⟩) n n cl ∧ Below w.heap.size w w' := by
  obtain ⟨i0, hi, hz0, hz1, hz2⟩ := info_partsK Try.infoClaim
  have HL := Lib.hid h.len
  have H4 := Lib.hid h4
  clear h4
  go_enter Try.func74, Try.ntmps74
  go_wp2_with (at_make; refine wpList_make_full _ rfl _ _ 66 rfl w.heap.size 69 i0 (.agg #[.int .i64 0, .int .i64 0, .int .i64 0, .int .i64 0]) 4 Try.underlying66 hi hz0 hz1 .i64 .i64 _ _ n rfl rfl (by omega) (by omega) (by rw [hz2]; omega) (by unfold maxLen; omega) (Nat.le_refl _) ?_; intro w1 hown hgrow; have O1 := ownC_made hown cl; have B1 : Below w.heap.size w w1 := below_of_grown hgrow (Nat.le_refl _) (fun k hk => by cases hk); clear hown hgrow)
  go_loopw [12] (fun t wx => ∃ k : Nat, k ≤ n ∧ t = .int .i64 (k : Int) ∧ OwnC wx w.heap.size (some ⟨w.heap.size, 0, none⟩) n n (partC cl n k) ∧ Below w.heap.size w wx) (fun t _ => n - (intOf t).toNat)
  case atStart => exact ⟨0, Nat.zero_le _, rfl, O1, B1⟩
  case round =>
    obtain ⟨k, hk, rfl, O2, B2⟩ := hrel
    by_cases hlt : k < n
    · have hltB : decide ((k : Int) < (n : Int)) = true := by simp; omega
      obtain ⟨b, o, X, q, d, x, rfl, hbl, hx, hcx, hqd, hX⟩ := h.at_ hlt
      obtain ⟨hx4, hx0, hx1⟩ := H4.out x (List.mem_of_getElem? hx)
      obtain rfl : q = 4 := by have := hX.len; omega
      have BD : Below w.heap.size w wr.drew := B2.trans (below_drewN _ 1)
      obtain ⟨D, hD⟩ : ∃ D, wr.drew = D := ⟨_, rfl⟩
      rw [hD] at BD
      have hc1 := (B2.cell (p := ⟨b, o + k, none⟩) hbl).trans hcx
      obtain ⟨b1, o1, hA1, hb1, e0⟩ := has_gi hX (i := 0) (by omega)
      obtain ⟨b2, o2, hA2, _, e1⟩ := has_gi hX (i := 1) (by omega)
      obtain ⟨b3, o3, hA3, _, e2⟩ := has_gi hX (i := 2) (by omega)
      obtain ⟨b4, o4, hA4, _, e3⟩ := has_gi hX (i := 3) (by omega)
      subst hA1
      injection hA2 with hA2; injection hA2 with q1 q2; subst q1 q2
      injection hA3 with hA3; injection hA3 with q1 q2; subst q1 q2
      injection hA4 with hA4; injection hA4 with q1 q2; subst q1 q2
      have r1 := (B2.cell (p := ⟨b1, o1 + 1, none⟩) hb1).trans e1
      have p0 := (BD.cell (p := ⟨b1, o1 + 0, none⟩) hb1).trans e0
      have p1 := (BD.cell (p := ⟨b1, o1 + 1, none⟩) hb1).trans e1
      have p2 := (BD.cell (p := ⟨b1, o1 + 2, none⟩) hb1).trans e2
      have p3 := (BD.cell (p := ⟨b1, o1 + 3, none⟩) hb1).trans e3
      rw [Nat.add_zero] at p0
      have O3 : OwnC D w.heap.size (some ⟨w.heap.size, 0, none⟩) n n (partC cl n k) := hD ▸ O2.bel (below_drewN _ 1)
      obtain ⟨c0, c1, c2, c3⟩ := O3.at_ hlt
      have f1 := O3.frozen
      obtain ⟨O4, G4⟩ := O3.put k x
      rw [partC_set HL.out hlt hx] at O4
      have B4 := BD.trans (below_of_grown G4 BD.size (fun j hj => by injection hj with hj; omega))
      unfold put4 at O4 B4
      have x0B : decide (gi x 1 < 0) = false := by simp; omega
      have x1B : decide (gi x 1 > 10000) = false := by simp; omega
      have x1C : decide (10000 < gi x 1) = false := by simp; omega
      have HO := Lib.hid O4
      have HB := Lib.hid B4
      generalize gi x 0 = z0 at *
      generalize gi x 1 = z1 at *
      generalize gi x 2 = z2 at *
      generalize gi x 3 = z3 at *
      clear hx O4 B4 G4 e0 e1 e2 e3 hcx
      go_wp2
      go_still_tail 15, (by kernel_rfl)
      go_wp2
      go_roundw
      case rel => exact ⟨k + 1, by omega, by go_num, HO.out, HB.out⟩
      case measure => simp [intOf]; omega
    · have hltB : decide ((k : Int) < (n : Int)) = false := by simp; omega
      obtain rfl : k = n := by omega
      rw [partC_done HL.out] at O2
      go_wp2
      go_ret2
      exact ⟨_, rfl, O2, B2⟩
end Go.Proofs.Ytkmdpmhaljieaaa
