/-
  Chapter 13's draws: what is proved here is what is drawn, in memory of its own, and that nothing that was there is written. No condition.
-/
import Derived.Test.YtkdjcfejkgpplaaDraw1
import Derived.WalkSmall
namespace Go.Proofs.Ytkdjcfejkgpplaa
open Go.RowKit

theorem ints_app13 (k : IntKind) (a b : List Int) : ints k (a ++ b) = ints k a ++ ints k b := by simp [ints]
theorem below_allocD (w : World) (o : Obj) : Below w.heap.size w (w.alloc o) := (Below.refl _ _).alloc (Nat.le_refl _) _
theorem results_tmp5 {fn : Func} {t u v x y : Tmp} (h : fn.results = #[.tmp t, .tmp u, .tmp v, .tmp x, .tmp y]) (tmps : Array Value) (P : Program) (w : World) :
    (results fn tmps).run P w = .ok (.tuple #[tmps.getD t undef, tmps.getD u undef, tmps.getD v undef, tmps.getD x undef, tmps.getD y undef]) w := by
  simp [results, h]
/-- The front of a slice. -/
theorem Has.front13 {w : World} {A : Option Addr} {n : Nat} {zs : List Int} (h : Has w A n (ints .i64 zs)) {k : Nat} (hk : k ≤ n) : Has w A k (ints .i64 (zs.take k)) := by
  have hl := h.len
  refine ⟨by unfold ints; rw [List.length_map, List.length_take]; omega, fun i hi => ?_⟩
  obtain ⟨b, o, hA, hc⟩ := h.2 i (by omega)
  refine ⟨b, o, hA, ?_⟩
  rw [hc]
  unfold ints
  rw [List.getElem?_map, List.getElem?_map, List.getElem?_take_of_lt hi]
theorem run_front13 {P : Program} {t e : TypeId} {sz : Nat} (ht : P.underlying t = some (.slice e)) (hz : ∀ w, (Go.sizeOf e).run P w = .ok sz w) {b o n c k : Nat} {z : Int} (hk : k ≤ c) (hzk : z = (k : Int)) :
    ∀ W, (Instr.slice t (.slice (some ⟨b, o, none⟩) n c) none (some (.int .i64 z)) none).run P W = .ok (.slice (some ⟨b, o, none⟩) k c) W := fun W => by
  subst hzk
  have ht' : P.underlying t = some (.slice (P.elem t)) := by simp [Program.elem, ht]
  have he : P.elem t = e := by simp [Program.elem, ht]
  rw [run_slice_h W t _ _ _ ht' .i64 _ (by omega) (by omega), he, hz]
  simp [Result.andThen, sliced, Addr.add]
/-- Which slots are open, drawn with a source. -/
def DrainR (lo r p : Nat) (w w' : World) (e : Ending) : Prop := ∃ (A : Option Addr) (n c : Nat) (ds : List Int) (p' : Nat), e = .returned (.slice A n c) ∧ Own w' w.heap.size 3 A n c (ints .i64 ds) ∧ n ≤ 11 ∧ p' ≤ p + 20 ∧ Rd w' lo r p' ∧ w.grownBy w' (some r)

set_option maxHeartbeats 8000000 in
theorem l13Draw_any {lo r p : Nat} {w : World} (h : Rd w lo r p) (hp : p ≤ 274877906944) :
    Calls Try.prog 30 #[.pointer (some ⟨r, 0, none⟩)] w fun e w' => DrainR lo r p w w' e := by
  obtain ⟨i0, hi, hz0, hz1, hz2⟩ := info_parts Try.infoInt
  have hrl := h.lt
  have hlo := h.1
  have E1 : Own (w.alloc (.cells #[.int .i64 1] 3)) w.heap.size 3 (some ⟨w.heap.size, 0, none⟩) 1 1 (ints .i64 [1]) := World.ownsRow_lit w #[.int .i64 1] 1 (Nat.le_refl _) (by unfold maxLen; omega) rfl
  have R1 := h.alloc (.cells #[.int .i64 1] 3)
  have G1 : w.grownBy (w.alloc (.cells #[.int .i64 1] 3)) (some r) := World.grownBy_alloc _ _ _
  go_enter Try.func30, Try.ntmps30
  go_wp2_with (fail)
  refine (num_any (n := 4) (l := [0, 3, 9, 1]) (R1.alloc _) (by omega) (Has.rowAt #[.int .i64 0, .int .i64 3, .int .i64 9, .int .i64 1] rfl rfl (by decide) _ (by simp)) (fun ad ha => by injection ha with ha; subst ha; simp; omega) (by omega) (by omega)).mono ?_
  rintro e w2 ⟨v, rfl, hv, R2, G2⟩
  have hvb : 0 ≤ v ∧ v ≤ 9 := by simp at hv; omega
  obtain ⟨k0, rfl⟩ := Int.eq_ofNat_of_zero_le hvb.1
  have hk9 : k0 ≤ 9 := by omega
  clear hv hvb
  have O2 := E1.past hrl (gr_alloc G2)
  have G12 := gr_trans G1 (gr_alloc G2)
  clear E1 R1 G1 G2
  go_wp2
  go_loopw [3, 4] (fun v i wr => ∃ (k : Nat) (A' : Option Addr) (q c' : Nat) (ds : List Int) (p' : Nat), k + q = k0 + 1 ∧ 1 ≤ q ∧ i = .int .i64 (k : Int) ∧ v = .slice A' q c' ∧ Own wr w.heap.size 3 A' q c' (ints .i64 ds) ∧ p' ≤ p + q ∧ Rd wr lo r p' ∧ w.grownBy wr (some r)) (fun _ i _ => (intOf i).toNat)
  case atStart => exact ⟨k0, _, 1, _, [1], p + 1, by omega, by omega, rfl, rfl, O2, by omega, R2, G12⟩
  case round =>
    clear O2 R2 G12
    obtain ⟨k, A2, q2, c2, ds, p2, hkq, hq1, rfl, rfl, O2, hp2, R2, G2⟩ := hrel
    have s2 := G2.size
    by_cases hk : 0 < k
    · have hkB : decide ((k : Int) > 0) = true := by simp; omega
      have hkC : decide (0 < (k : Int)) = true := by simp; omega
      go_wp2_with (fail)
      refine (pick_any R2 (by omega) (by omega)).mono ?_
      rintro e w4 ⟨z, rfl, hz, R4, G4⟩
      clear hz
      have O4 := O2.past hrl G4
      have G24 := gr_trans G2 G4
      have s4 := G24.size
      go_wp2_with (at_builtin; refine wpList_apps _ rfl (.tmp 13) (.tmp 16) 23 rfl w.heap.size 3 i0 (.int .i64 0) 8 Try.underlying23 hi hz0 hz1 hz2 rfl A2 q2 c2 _ rfl O4 1 1 #[.int .i64 z] rfl rfl (by simp [Value.oneCell']) (by decide) (by omega) (by decide) s4 ?_; intro g5 c5 w5 O5 G5 B5 _)
      have R5 := R4.grown G5 (own_far O4 hrl R4)
      have G25 := gr_new G24 G5 (own_ge O4)
      go_roundw
      case rel => exact ⟨k - 1, _, q2 + 1, _, ds ++ [z], p2 + 1, by omega, by omega, by go_num, rfl, by rw [ints_app13]; exact O5, by omega, R5, G25⟩
      case measure => simp [intOf]; omega
    · obtain rfl : k = 0 := by omega
      go_wp2_with (fail)
      refine (pick_any R2 (by omega) (by omega)).mono ?_
      rintro e w4 ⟨t, rfl, ht, R4, G4⟩
      clear ht
      have O4 := O2.past hrl G4
      have G24 := gr_trans G2 G4
      have s4 := G24.size
      by_cases t0 : t = 0
      · subst t0
        have O5 : Own (w4.alloc (.cells #[] 3)) w.heap.size 3 (some ⟨w4.heap.size, 0, none⟩) 0 0 (ints .i64 []) := World.ownsRow_lit w4 #[] 0 s4 (by unfold maxLen; omega) rfl
        have R5 := R4.alloc (.cells #[] 3)
        have G5 := gr_bel G24 (below_allocD w4 (.cells #[] 3))
        go_wp2
        go_ret
        exact ⟨_, _, _, [], _, rfl, O5, by omega, by omega, R5, G5⟩
      have t0B : (t == 0) = false := by simp [t0]
      by_cases t1 : t = 1
      · subst t1
        have O5 : Own (w4.alloc (.cells #[.int .i64 0, .int .i64 0] 3)) w.heap.size 3 (some ⟨w4.heap.size, 0, none⟩) 2 2 (ints .i64 [0, 0]) := World.ownsRow_lit w4 #[.int .i64 0, .int .i64 0] 2 s4 (by unfold maxLen; omega) rfl
        have R5 := R4.alloc (.cells #[.int .i64 0, .int .i64 0] 3)
        have G5 := gr_bel G24 (below_allocD w4 (.cells #[.int .i64 0, .int .i64 0] 3))
        go_wp2
        go_ret
        exact ⟨_, _, _, [0, 0], _, rfl, O5, by omega, by omega, R5, G5⟩
      have t1B : (t == 1) = false := by simp [t1]
      by_cases t2 : t = 2
      · subst t2
        go_wp2_with (at_builtin; refine wpList_apps _ rfl (.tmp 28) (.tmp 29) 23 rfl w.heap.size 3 i0 (.int .i64 0) 8 Try.underlying23 hi hz0 hz1 hz2 rfl A2 q2 c2 _ rfl O4 1 1 #[.int .i64 2] rfl rfl (by simp [Value.oneCell']) (by decide) (by omega) (by decide) s4 ?_; intro g5 c5 w5 O5 G5 B5 _)
        have R5 := R4.grown G5 (own_far O4 hrl R4)
        have G25 := gr_new G24 G5 (own_ge O4)
        go_ret
        exact ⟨_, _, _, ds ++ [2], _, rfl, by rw [ints_app13]; exact O5, by omega, by omega, R5, G25⟩
      have t2B : (t == 2) = false := by simp [t2]
      clear t0 t1 t2
      go_wp2
      go_ret
      exact ⟨_, _, _, ds, _, rfl, O4, by omega, by omega, R4, G24⟩
set_option maxHeartbeats 2000000 in
theorem drawOpenSlots_any {A : Option Addr} {n c : Nat} {zs : List Int} {w : World} (h : Has w A n (ints .u8 zs)) (hu : U8s zs) (hc : n ≤ c ∧ c ≤ maxLen) :
    Calls Try.prog 22 #[.slice A n c] w fun e w' => ∃ (D : Option Addr) (q c' : Nat) (ds : List Int) (a k : Int), e = .returned (.tuple #[.slice D q c', .int .i64 a, .int .i64 k]) ∧ Has w' D q (ints .i64 ds) ∧ q ≤ 11 ∧ (-1 ≤ a ∧ a ≤ 3000) ∧ (-1 ≤ k ∧ k ≤ 3000) ∧ Below w.heap.size w w' := by
  go_enter Try.func22, Try.ntmps22
  go_wp2_with (fail)
  refine (open_any h hu hc).mono ?_
  rintro e w1 ⟨r, rfl, R1, B1⟩
  have hrl := R1.lt
  go_wp2_with (fail)
  refine (l13Draw_any R1 (by omega)).mono ?_
  rintro e w2 ⟨D, q, c', ds, p2, rfl, O2, hq, hp2, R2, G2⟩
  have s2 := G2.size
  go_wp2_with (fail)
  refine (num_any (n := 5) (l := [0, 1, 7, 3000, -1]) (R2.alloc _) (by omega) (Has.row #[.int .i64 0, .int .i64 1, .int .i64 7, .int .i64 3000, .int .i64 (-1)] rfl rfl (by unfold maxLen; omega)) (fun ad ha => by injection ha with ha; subst ha; have := R2.lt; simp; omega) (by omega) (by omega)).mono ?_
  rintro e w3 ⟨a, rfl, ha, R3, G3⟩
  have hab : -1 ≤ a ∧ a ≤ 3000 := by simp at ha; omega
  have O3 := (O2.bel (below_allocD w2 (.cells #[.int .i64 0, .int .i64 1, .int .i64 7, .int .i64 3000, .int .i64 (-1)] 3))).past hrl G3
  clear ha
  go_wp2_with (fail)
  refine (num_any (n := 6) (l := [5, 0, 20, 1, 100, -1]) (R3.alloc _) (by omega) (Has.row #[.int .i64 5, .int .i64 0, .int .i64 20, .int .i64 1, .int .i64 100, .int .i64 (-1)] rfl rfl (by unfold maxLen; omega)) (fun ad ha => by injection ha with ha; subst ha; have := R3.lt; simp; omega) (by omega) (by omega)).mono ?_
  rintro e w4 ⟨k, rfl, hk, R4, G4⟩
  have hkb : -1 ≤ k ∧ k ≤ 3000 := by simp at hk; omega
  have O4 := (O3.bel (below_allocD w3 (.cells #[.int .i64 5, .int .i64 0, .int .i64 20, .int .i64 1, .int .i64 100, .int .i64 (-1)] 3))).past hrl G4
  clear hk
  go_wp2
  refine bodyPost_ret (results_tmp3 rfl _ _ _) rfl ?_
  exact ⟨_, _, _, ds, _, _, rfl, O4.has, hq, hab, hkb, bel_read B1 R1 (gr_trans (gr_trans G2 (gr_alloc G3)) (gr_alloc G4))⟩
theorem drawRoomFor_any {A : Option Addr} {n c : Nat} {zs : List Int} {w : World} (h : Has w A n (ints .u8 zs)) (hu : U8s zs) (hc : n ≤ c ∧ c ≤ maxLen) :
    Calls Try.prog 20 #[.slice A n c] w fun e w' => ∃ a : Int, e = .returned (.int .i64 a) ∧ (-1 ≤ a ∧ a ≤ 15) ∧ Below w.heap.size w w' := by
  go_enter Try.func20, Try.ntmps20
  go_wp2_with (fail)
  refine (open_any h hu hc).mono ?_
  rintro e w1 ⟨r, rfl, R1, B1⟩
  go_wp2_with (fail)
  refine (pick_any R1 (by omega) (by omega)).mono ?_
  rintro e w2 ⟨v, rfl, hv, R2, G2⟩
  have hvb : 0 ≤ v ∧ v ≤ 15 := by unfold Picked at hv; omega
  clear hv
  go_wp2
  go_ret
  exact ⟨_, rfl, by omega, bel_read B1 R1 G2⟩
set_option maxRecDepth 100000 in
set_option maxHeartbeats 8000000 in
theorem drawRunCredits_any {A : Option Addr} {n c : Nat} {zs : List Int} {w : World} (h : Has w A n (ints .u8 zs)) (hu : U8s zs) (hc : n ≤ c ∧ c ≤ maxLen) :
    Calls Try.prog 13 #[.slice A n c] w fun e w' => ∃ (D : Option Addr) (q c' : Nat) (ds : List Int) (a d m s : Int), e = .returned (.tuple #[.int .i64 a, .int .i64 d, .int .i64 m, .slice D q c', .int .i64 s]) ∧ Has w' D q (ints .i64 ds) ∧ q ≤ 11 ∧ (-1 ≤ s ∧ s ≤ 3000) ∧ Below w.heap.size w w' := by
  go_enter Try.func13, Try.ntmps13
  go_wp2_with (fail)
  refine (open_any h hu hc).mono ?_
  rintro e w1 ⟨r, rfl, R1, B1⟩
  have hrl := R1.lt
  have s1 := B1.size
  go_wp2_with (fail)
  refine (num_any (n := 3) (l := [5, 5, 7]) ((R1.alloc _).alloc _) (by omega) (Has.rowAt #[.int .i64 5, .int .i64 5, .int .i64 7] rfl rfl (by decide) _ (by simp)) (fun ad ha => by injection ha with ha; subst ha; simp; omega) (by omega) (by omega)).mono ?_
  rintro e w2 ⟨v, rfl, hv, R2, G2⟩
  have L2 := Own.lit0 hrl (by simp; unfold maxLen; omega) G2
  have hvb : v = 5 ∨ v = 7 := by simpa using hv
  have G12 := gr_alloc (gr_alloc G2)
  have L3 : Has w2 (some ⟨w1.heap.size, 0, none⟩) 7 (ints .i64 [2, 1, 4, 8, 40, 0, 41]) := L2.has
  obtain ⟨k, hk, hk1, hk2⟩ : ∃ k : Nat, v = (k : Int) ∧ 1 ≤ k ∧ k ≤ 7 := by
    rcases hvb with e | e
    · exact ⟨5, e, by omega, by omega⟩
    · exact ⟨7, e, by omega, by omega⟩
  have LF := L3.front13 hk2
  have hrun := run_front13 (P := Try.prog) (t := 23) (e := 3) Try.underlying23 Try.sizeOf3 (b := w1.heap.size) (o := 0) (n := 7) (c := 7) (k := k) (z := v) hk2 hk
  clear hv hvb L2 G2 hk
  go_wp2_with (fail)
  refine (num_any (n := k) (l := [2, 1, 4, 8, 40, 0, 41].take k) R2 (by omega) LF (fun ad ha => by injection ha with ha; subst ha; simp; omega) (by omega) (by omega)).mono ?_
  rintro e w3 ⟨a, rfl, _, R3, G3⟩
  have G13 := gr_trans G12 G3
  clear L3 LF hrun G12 G3
  have hr3 := R3.lt
  go_wp2_with (fail)
  refine (num_any (n := 5) (l := [1, 2, 3, 12, 5]) (R3.alloc _) (by omega) (Has.row #[.int .i64 1, .int .i64 2, .int .i64 3, .int .i64 12, .int .i64 5] rfl rfl (by unfold maxLen; omega)) (fun ad ha => by injection ha with ha; subst ha; simp; omega) (by omega) (by omega)).mono ?_
  rintro e w4 ⟨d, rfl, _, R4, G4⟩
  have G14 := gr_trans G13 (gr_alloc G4)
  have hr4 := R4.lt
  clear G13 G4
  go_wp2_with (fail)
  refine (num_any (n := 6) (l := [5, 20, 0, 1, 60, 500]) (R4.alloc _) (by omega) (Has.row #[.int .i64 5, .int .i64 20, .int .i64 0, .int .i64 1, .int .i64 60, .int .i64 500] rfl rfl (by unfold maxLen; omega)) (fun ad ha => by injection ha with ha; subst ha; simp; omega) (by omega) (by omega)).mono ?_
  rintro e w5 ⟨m, rfl, _, R5, G5⟩
  have G15 := gr_trans G14 (gr_alloc G5)
  have hr5 := R5.lt
  clear G14 G5
  go_wp2_with (fail)
  refine (l13Draw_any R5 (by omega)).mono ?_
  rintro e w6 ⟨D, q, c', ds, p6, rfl, O6, hq, hp6, R6, G6⟩
  have G16 := gr_trans G15 G6
  have hr6 := R6.lt
  clear G15 G6
  go_wp2_with (fail)
  refine (num_any (n := 7) (l := [30, 300, 3, 3000, 0, 100, -1]) (R6.alloc _) (by omega) (Has.row #[.int .i64 30, .int .i64 300, .int .i64 3, .int .i64 3000, .int .i64 0, .int .i64 100, .int .i64 (-1)] rfl rfl (by unfold maxLen; omega)) (fun ad ha => by injection ha with ha; subst ha; simp; omega) (by omega) (by omega)).mono ?_
  rintro e w7 ⟨s, rfl, hs, R7, G7⟩
  have hsb : -1 ≤ s ∧ s ≤ 3000 := by simp at hs; omega
  have O7 := (O6.bel (below_allocD w6 (.cells #[.int .i64 30, .int .i64 300, .int .i64 3, .int .i64 3000, .int .i64 0, .int .i64 100, .int .i64 (-1)] 3))).past hr5 G7
  clear hs
  go_wp2
  refine bodyPost_ret (results_tmp5 rfl _ _ _) rfl ?_
  exact ⟨_, _, _, ds, _, _, _, _, rfl, O7.has, hq, hsb, bel_read B1 R1 (gr_trans G16 (gr_alloc G7))⟩
set_option maxRecDepth 100000 in
set_option maxHeartbeats 4000000 in
theorem drawCreditSlots_any {A : Option Addr} {n c : Nat} {zs : List Int} {w : World} (h : Has w A n (ints .u8 zs)) (hu : U8s zs) (hc : n ≤ c ∧ c ≤ maxLen) :
    Calls Try.prog 16 #[.slice A n c] w fun e w' => ∃ (a d m : Int), e = .returned (.tuple #[.int .i64 a, .int .i64 d, .int .i64 m]) ∧ Below w.heap.size w w' := by
  go_enter Try.func16, Try.ntmps16
  go_wp2_with (fail)
  refine (drawRunCredits_any h hu hc).mono ?_
  rintro e w1 ⟨D, q, c', ds, a, d, m, s, rfl, _, _, _, B1⟩
  go_wp2_with (fail)
  refine (open_any (h.bel B1) hu hc).mono ?_
  rintro e w2 ⟨r, rfl, R2, B2⟩
  have B12 := bel_trans B1 B2
  go_wp2_with (fail)
  refine (pick_any R2 (by omega) (by omega)).mono ?_
  rintro e w3 ⟨t, rfl, ht, R3, G3⟩
  clear ht
  by_cases t0 : t = 0
  · subst t0
    have hr3 := R3.lt
    go_wp2_with (fail)
    refine (num_any (n := 2) (l := [0, 13]) (R3.alloc _) (by omega) (Has.row #[.int .i64 0, .int .i64 13] rfl rfl (by unfold maxLen; omega)) (fun ad ha => by injection ha with ha; subst ha; simp; omega) (by omega) (by omega)).mono ?_
    rintro e w4 ⟨v, rfl, _, R4, G4⟩
    go_wp2
    refine bodyPost_ret (results_tmp3 rfl _ _ _) rfl ?_
    exact ⟨_, _, _, rfl, bel_trans B1 (bel_read B2 R2 (gr_trans G3 (gr_alloc G4)))⟩
  · have t0B : (t == 0) = false := by simp [t0]
    clear t0
    go_wp2
    refine bodyPost_ret (results_tmp3 rfl _ _ _) rfl ?_
    exact ⟨_, _, _, rfl, bel_trans B1 (bel_read B2 R2 G3)⟩
end Go.Proofs.Ytkdjcfejkgpplaa
