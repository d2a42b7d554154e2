/-
  Chapter 11's draws: what is proved here is what is drawn, in memory of its own, and that nothing that was there is written. No condition.
-/
import Derived.Test.YtimddobedgopiaaBools
import Derived.Test.YtimddobedgopiaaDrawHops
namespace Go.Proofs.Ytimddobedgopiaa
open Go.RowKit

/-- What is drawn with a source: wires. -/
def BoolsR (w w' : World) (lo r p : Nat) (e : Ending) : Prop := ∃ A n c us p', e = .returned (.slice A n c) ∧ Own w' w.heap.size 4 A n c (bools us) ∧ n ≤ 9 ∧ p' ≤ p + 20 ∧ Rd w' lo r p' ∧ w.grownBy w' (some r)
/-- What is drawn: two numbers. -/
def NumsF (w w' : World) (e : Ending) : Prop := ∃ a b : Int, e = .returned (.tuple #[.int .i64 a, .int .i64 b]) ∧ (-1 ≤ a ∧ a ≤ 300) ∧ (-1 ≤ b ∧ b ≤ 300) ∧ Below w.heap.size w w'
/-- What is drawn: wires and a number. -/
def BoolsN (w w' : World) (e : Ending) : Prop := ∃ A n c us v, e = .returned (.tuple #[.slice A n c, .int .i64 v]) ∧ Has w' A n (bools us) ∧ n ≤ 9 ∧ (-1 ≤ v ∧ v ≤ 300) ∧ Below w.heap.size w w'
/-- What is drawn: wires. -/
def BoolsO (w w' : World) (e : Ending) : Prop := ∃ A n c us, e = .returned (.slice A n c) ∧ Has w' A n (bools us) ∧ n ≤ 9 ∧ Below w.heap.size w w'
/-- What is drawn: wires twice. -/
def BoolsT (w w' : World) (e : Ending) : Prop := ∃ A n c us B m d vs, e = .returned (.tuple #[.slice A n c, .slice B m d]) ∧ Has w' A n (bools us) ∧ n ≤ 9 ∧ Has w' B m (bools vs) ∧ m ≤ 9 ∧ Below w.heap.size w w'
/-- What is drawn: wires and frames. -/
def BoolsH (w w' : World) (e : Ending) : Prop := ∃ A n c us B m d hs, e = .returned (.tuple #[.slice A n c, .slice B m d]) ∧ Has w' A n (bools us) ∧ n ≤ 9 ∧ HasH w' B m hs ∧ m ≤ 20 ∧ Below w.heap.size w w'
theorem pickedF {m v : Int} (h : Picked m v) (hm : 1 ≤ m) : 0 ≤ v ∧ v < m := by unfold Picked at h; omega
theorem bools_one (us : List Bool) : ∀ u ∈ bools us, u.oneCell' = true := by
  intro u hu
  obtain ⟨b, _, rfl⟩ := List.mem_map.1 hu
  rfl
theorem litB_own (w : World) : Own (w.alloc (.cells #[] 4)) w.heap.size 4 (some ⟨w.heap.size, 0, none⟩) 0 0 (bools []) := World.ownsRow_lit w #[] 0 (Nat.le_refl _) (by unfold maxLen; omega) rfl

set_option maxRecDepth 100000 in
set_option maxHeartbeats 2000000 in
theorem l11Up_any {lo r p : Nat} {w : World} (h : Rd w lo r p) (hp : p ≤ 274877906944) :
    Calls Try.prog 53 #[.pointer (some ⟨r, 0, none⟩)] w fun e w' => BoolsR w w' lo r p e := by
  obtain ⟨i0, hi, hz0, hz1, hz2⟩ := info_parts Try.infoBool
  have hrl := h.lt
  go_enter Try.func53, Try.ntmps53
  go_wp2_with (fail)
  refine (num_any (n := 15) (l := [3, 4, 2, 8, 1, 5, 3, 4, 2, 8, 1, 5, 3, 0, 9]) ((h.alloc (.cells #[] 4)).alloc _) (by omega) (Has.rowAt #[.int .i64 3, .int .i64 4, .int .i64 2, .int .i64 8, .int .i64 1, .int .i64 5, .int .i64 3, .int .i64 4, .int .i64 2, .int .i64 8, .int .i64 1, .int .i64 5, .int .i64 3, .int .i64 0, .int .i64 9] rfl rfl (by decide) _ (by simp)) (fun ad ha => by injection ha with ha; subst ha; simp; omega) (by omega) (by omega)).mono ?_
  rintro e w1 ⟨v, rfl, hv, R1, G1⟩
  have hvb : 0 ≤ v ∧ v ≤ 9 := by simp at hv; omega
  obtain ⟨N, rfl⟩ := Int.eq_ofNat_of_zero_le hvb.1
  have hN : N ≤ 9 := by omega
  clear hv hvb
  have O1 := ((litB_own w).bel ((Below.refl _ _).alloc (Nat.le_refl _) (.cells #[.int .i64 3, .int .i64 4, .int .i64 2, .int .i64 8, .int .i64 1, .int .i64 5, .int .i64 3, .int .i64 4, .int .i64 2, .int .i64 8, .int .i64 1, .int .i64 5, .int .i64 3, .int .i64 0, .int .i64 9] 3))).past hrl G1
  have G1' := gr_alloc (gr_alloc G1)
  clear G1
  go_wp2
  go_loopw [3, 4] (fun v i wr => ∃ k q A' c' us, k + q = N ∧ i = .int .i64 ((k : Nat) : Int) ∧ v = .slice A' q c' ∧ Own wr w.heap.size 4 A' q c' (bools us) ∧ Rd wr lo r (p + 1 + q) ∧ w.grownBy wr (some r)) (fun _ i _ => (intOf i).toNat)
  case atStart => exact ⟨N, 0, _, _, [], by omega, rfl, rfl, O1, R1, G1'⟩
  case round =>
    obtain ⟨k, q, A1, c1, us, hk, rfl, rfl, O2, R2, G2⟩ := hrel
    have hge := G2.size
    have HK := Lib.hid hk
    by_cases hlt : 0 < k
    · have g0 : decide ((k : Int) > 0) = true := by simp; omega
      have g1 : decide ((0 : Int) < (k : Int)) = true := by simp; omega
      have g2 : decide (0 < k) = true := by simp; omega
      have hq : q ≤ 9 := by omega
      obtain ⟨j, hj⟩ : ∃ j, j = k - 1 := ⟨_, rfl⟩
      have kW : IntKind.i64.wrap ((k : Int) - 1) = (j : Int) := by rw [IntWalk.i64_in _ (by omega)]; omega
      have HJ := Lib.hid hj
      have HM := Lib.hid (show j < k by omega)
      clear hj
      clear hk
      go_wp2_with (fail)
      refine (pick_any R2 (by omega) (by omega)).mono ?_
      rintro e w3 ⟨u, rfl, hu, R3, G3⟩
      clear hu
      obtain ⟨b, hb1, hb2⟩ : ∃ b, decide (u > 0) = b ∧ decide (0 < u) = b := ⟨_, rfl, rfl⟩
      have O3 := O2.past hrl G3
      have s3 := G3.size
      go_wp2_with (at_builtin; refine wpList_apps _ rfl (.tmp 13) (.tmp 17) 27 rfl w.heap.size 4 i0 (.bool false) 1 Try.underlying27 hi hz0 hz1 hz2 rfl A1 q c1 _ rfl O3 1 1 #[.bool b] rfl rfl (by simp [Value.oneCell']) (by decide) (by omega) (by decide) (by omega) ?_; intro g cap w4 O4 G4 B4 _)
      go_roundw
      case rel => exact ⟨j, q + 1, _, _, us ++ [b], by have := HK.out; have := HJ.out; omega, rfl, rfl, by rw [bools_app]; exact O4, by rw [show p + 1 + (q + 1) = p + 1 + q + 1 by omega]; exact R3.grown G4 (own_far O3 hrl R3), gr_new (gr_trans G2 G3) G4 (own_ge O3)⟩
      case measure => have := HM.out; simp [intOf]; omega
    · obtain rfl : k = 0 := by omega
      have g0 : decide (((0 : Nat) : Int) > 0) = false := rfl
      have g1 : decide ((0 : Int) > 0) = false := rfl
      obtain rfl : q = N := by omega
      clear hk hlt HK
      go_wp2
      go_ret
      exact ⟨_, _, _, us, _, rfl, O2, by omega, by omega, R2, G2⟩

set_option maxHeartbeats 1000000 in
theorem drawFlowOf_any {A : Option Addr} {n c : Nat} {zs : List Int} {w : World} (h : Has w A n (ints .u8 zs)) (hu : U8s zs) (hc : n ≤ c ∧ c ≤ maxLen) :
    Calls Try.prog 15 #[.slice A n c] w fun e w' => NumsF w w' e := by
  go_enter Try.func15, Try.ntmps15
  go_wp2_with (fail)
  refine (open_any h hu hc).mono ?_
  rintro e w1 ⟨r, rfl, R1, B1⟩
  go_wp2_with (fail)
  refine (pick_any R1 (by omega) (by omega)).mono ?_
  rintro e w2 ⟨a, rfl, ha, R2, G2⟩
  have ha' := pickedF ha (by omega)
  have wa : IntKind.i64.wrap (a - 1) = a - 1 := IntWalk.i64_in _ (by omega)
  go_wp2_with (fail)
  refine (pick_any R2 (by omega) (by omega)).mono ?_
  rintro e w3 ⟨b, rfl, hb, R3, G3⟩
  have hb' := pickedF hb (by omega)
  have wb : IntKind.i64.wrap (b - 1) = b - 1 := IntWalk.i64_in _ (by omega)
  clear ha hb
  go_wp2
  go_ret2
  exact ⟨_, _, rfl, by omega, by omega, bel_read B1 R1 (gr_trans G2 G3)⟩

set_option maxHeartbeats 1000000 in
theorem drawScoreOf_any {A : Option Addr} {n c : Nat} {zs : List Int} {w : World} (h : Has w A n (ints .u8 zs)) (hu : U8s zs) (hc : n ≤ c ∧ c ≤ maxLen) :
    Calls Try.prog 21 #[.slice A n c] w fun e w' => NumsF w w' e := by
  go_enter Try.func21, Try.ntmps21
  go_wp2_with (fail)
  refine (open_any h hu hc).mono ?_
  rintro e w1 ⟨r, rfl, R1, B1⟩
  go_wp2_with (fail)
  refine (pick_any R1 (by omega) (by omega)).mono ?_
  rintro e w2 ⟨a, rfl, ha, R2, G2⟩
  have ha' := pickedF ha (by omega)
  clear ha
  go_wp2_with (fail)
  refine (num_any (n := 5) (l := [a, 0, 239, 240, -1]) (R2.alloc _) (by omega) (Has.row #[.int .i64 a, .int .i64 0, .int .i64 239, .int .i64 240, .int .i64 (-1)] rfl rfl (by unfold maxLen; omega)) (fun ad ha => by injection ha with ha; subst ha; have := R2.lt; simp; omega) (by omega) (by omega)).mono ?_
  rintro e w3 ⟨d, rfl, hd, R3, G3⟩
  have hdb : -1 ≤ d ∧ d ≤ 240 := by simp at hd; omega
  have G3' := gr_trans G2 (gr_alloc G3)
  clear hd
  go_wp2_with (fail)
  refine (pick_any R3 (by omega) (by omega)).mono ?_
  rintro e w4 ⟨b, rfl, hb, R4, G4⟩
  have hb' := pickedF hb (by omega)
  have wb : IntKind.i64.wrap (b - 1) = b - 1 := IntWalk.i64_in _ (by omega)
  clear hb
  go_wp2
  go_ret2
  exact ⟨_, _, rfl, by omega, by omega, bel_read B1 R1 (gr_trans G3' G4)⟩

set_option maxHeartbeats 1000000 in
theorem drawSharesOf_any {A : Option Addr} {n c : Nat} {zs : List Int} {w : World} (h : Has w A n (ints .u8 zs)) (hu : U8s zs) (hc : n ≤ c ∧ c ≤ maxLen) :
    Calls Try.prog 24 #[.slice A n c] w fun e w' => BoolsO w w' e := by
  go_enter Try.func24, Try.ntmps24
  go_wp2_with (fail)
  refine (open_any h hu hc).mono ?_
  rintro e w1 ⟨r, rfl, R1, B1⟩
  go_wp2_with (fail)
  refine (l11Up_any R1 (by omega)).mono ?_
  rintro e w2 hX
  unfold BoolsR at hX
  obtain ⟨A2, n2, c2, us, p2, rfl, O2, hn2, _, R2, G2⟩ := hX
  go_wp2
  go_ret
  exact ⟨_, _, _, us, rfl, O2.has, hn2, bel_read B1 R1 G2⟩

set_option maxHeartbeats 1000000 in
theorem drawMemberFor_any {A : Option Addr} {n c : Nat} {zs : List Int} {w : World} (h : Has w A n (ints .u8 zs)) (hu : U8s zs) (hc : n ≤ c ∧ c ≤ maxLen) :
    Calls Try.prog 18 #[.slice A n c] w fun e w' => BoolsN w w' e := by
  go_enter Try.func18, Try.ntmps18
  go_wp2_with (fail)
  refine (open_any h hu hc).mono ?_
  rintro e w1 ⟨r, rfl, R1, B1⟩
  have hrl := R1.lt
  go_wp2_with (fail)
  refine (l11Up_any R1 (by omega)).mono ?_
  rintro e w2 hX
  unfold BoolsR at hX
  obtain ⟨A2, n2, c2, us, p2, rfl, O2, hn2, hp2, R2, G2⟩ := hX
  go_wp2_with (fail)
  refine (pick_any R2 (by omega) (by omega)).mono ?_
  rintro e w3 ⟨a, rfl, ha, R3, G3⟩
  have ha' := pickedF ha (by omega)
  have O3 := O2.past hrl G3
  clear ha
  go_wp2_with (fail)
  refine (pick_any R3 (by omega) (by omega)).mono ?_
  rintro e w4 ⟨b, rfl, hb, R4, G4⟩
  have hb' := pickedF hb (by omega)
  have O4 := O3.past hrl G4
  clear hb
  go_wp2_with (fail)
  refine (num_any (n := 6) (l := [a, b, 0, 239, 240, -1]) (R4.alloc _) (by omega) (Has.row #[.int .i64 a, .int .i64 b, .int .i64 0, .int .i64 239, .int .i64 240, .int .i64 (-1)] rfl rfl (by unfold maxLen; omega)) (fun ad ha => by injection ha with ha; subst ha; have := R4.lt; simp; omega) (by omega) (by omega)).mono ?_
  rintro e w5 ⟨d, rfl, hd, R5, G5⟩
  have hdb : -1 ≤ d ∧ d ≤ 240 := by simp at hd; omega
  have O5 := (O4.bel ((Below.refl _ _).alloc (Nat.le_refl _) (.cells #[.int .i64 a, .int .i64 b, .int .i64 0, .int .i64 239, .int .i64 240, .int .i64 (-1)] 3))).past hrl G5
  have G25 := gr_trans (gr_trans (gr_trans G2 G3) G4) (gr_alloc G5)
  clear hd
  go_wp2
  go_ret2
  exact ⟨_, _, _, us, _, rfl, O5.has, hn2, by omega, bel_read B1 R1 G25⟩

set_option maxRecDepth 100000 in
set_option maxHeartbeats 2000000 in
theorem drawMovedFlows_any {A : Option Addr} {n c : Nat} {zs : List Int} {w : World} (h : Has w A n (ints .u8 zs)) (hu : U8s zs) (hc : n ≤ c ∧ c ≤ maxLen) :
    Calls Try.prog 28 #[.slice A n c] w fun e w' => BoolsT w w' e := by
  obtain ⟨i0, hi, hz0, hz1, hz2⟩ := info_parts Try.infoBool
  go_enter Try.func28, Try.ntmps28
  go_wp2_with (fail)
  refine (open_any h hu hc).mono ?_
  rintro e w1 ⟨r, rfl, R1, B1⟩
  have hrl := R1.lt
  have s1 := B1.size
  go_wp2_with (fail)
  refine (l11Up_any R1 (by omega)).mono ?_
  rintro e w2 hX
  unfold BoolsR at hX
  obtain ⟨A2, n2, c2, us, p2, rfl, O2, hn2, hp2, R2, G2⟩ := hX
  have s2 := G2.size
  have h2l := R2.lt
  have L3 := litB_own w2
  have BL : Below w2.heap.size w2 (w2.alloc (.cells #[] 4)) := (Below.refl _ _).alloc (Nat.le_refl _) _
  have O2a := O2.bel BL
  have R2a := R2.bel BL
  by_cases h0 : 0 < n2
  · have g0 : decide ((n2 : Int) > 0) = true := by simp; omega
    have g1 : decide ((0 : Int) < (n2 : Int)) = true := by simp; omega
    have g2 : decide (0 < n2) = true := by simp; omega
    go_wp2_with (at_builtin; refine wpList_app_has _ rfl (.tmp 12) (.tmp 13) 27 rfl w2.heap.size 4 i0 (.bool false) 1 Try.underlying27 hi hz0 hz1 hz2 rfl (some ⟨w2.heap.size, 0, none⟩) 0 0 (bools []) rfl L3 A2 n2 c2 (bools us) rfl O2a.has (bools_one us) (by omega) (by decide) BL.size ?_; intro A3 c3 w3 O3 G3 B3)
    have O3' : Own w3 w2.heap.size 4 A3 n2 c3 (bools us) := by simpa [bools] using O3
    have B23 : Below w2.heap.size w2 w3 := BL.trans B3
    have Q3 := O2.bel B23
    have R3 := R2.bel B23
    have G23 := gr_bel G2 B23
    have s3 := B23.size
    clear L3 BL O2a R2a O3 G3 B3
    refine (pick_any R3 (by omega) (by omega)).mono ?_
    rintro e w4 ⟨k, rfl, hk, R4, G4⟩
    obtain ⟨hk0, hk1⟩ := pickedF hk (by omega)
    obtain ⟨K, rfl⟩ := Int.eq_ofNat_of_zero_le hk0
    have hK : K < n2 := by omega
    clear hk
    have Q4 := Q3.past hrl G4
    have O4 := O3'.past h2l G4
    have s4 := G4.size
    have G24 := gr_trans G23 G4
    obtain ⟨g, hA3, hcell, hfz⟩ := own_bool O4 hK
    subst hA3
    have hgb := O4.block
    obtain ⟨b, hb⟩ : ∃ b, us.getD K false = b := ⟨_, rfl⟩
    rw [hb] at hcell
    have P4 := O4.set_ K (.bool (!b))
    rw [bools_set] at P4
    have GS : w4.grownBy (w4.setCell ⟨g, K, none⟩ (.bool (!b))) (some g) := grown_set (World.grownBy.refl w4 (some g)) K _
    have Q5 := Q4.grown GS (fun a ha he => by injection he with he; have := O2.lt a ha; simp at hgb; omega)
    have R5 := R4.grown GS (fun k hk => by injection hk with hk; simp at hgb; exact ⟨by omega, by omega⟩)
    have G25 := gr_new G24 GS (fun k hk => by injection hk with hk; simp at hgb; omega)
    have s5 := GS.size
    clear hb
    go_wp2_with (fail)
    refine (pick_any R5 (by omega) (by omega)).mono ?_
    rintro e w8 ⟨u, rfl, hu8, R8, G8⟩
    clear hu8
    have Q8 := Q5.past hrl G8
    have B8 := P4.past h2l G8
    have G18 := gr_trans G25 G8
    have s8 := G8.size
    by_cases hu0 : u = 0
    · subst hu0
      go_wp2_with (fail)
      refine (l11Up_any R8 (by omega)).mono ?_
      rintro e w9 hX
      unfold BoolsR at hX
      obtain ⟨A9, n9, c9, ws, p9, rfl, O9, hn9, _, R9, G9⟩ := hX
      have Q9 := Q8.past hrl G9
      go_wp2
      go_ret2
      exact ⟨_, _, _, us, _, _, _, ws, rfl, Q9.has, hn2, O9.has, hn9, bel_read B1 R1 (gr_trans G18 G9)⟩
    · have h0B : (u == 0) = false := by simp [hu0]
      clear hu0
      go_wp2
      go_ret2
      exact ⟨_, _, _, us, _, _, _, _, rfl, Q8.has, hn2, B8.has, hn2, bel_read B1 R1 G18⟩
  · obtain rfl : n2 = 0 := by omega
    have g0 : decide (((0 : Nat) : Int) > 0) = false := rfl
    have g1 : decide ((0 : Int) > 0) = false := rfl
    go_wp2_with (at_builtin; refine wpList_app_has _ rfl (.tmp 12) (.tmp 13) 27 rfl w2.heap.size 4 i0 (.bool false) 1 Try.underlying27 hi hz0 hz1 hz2 rfl (some ⟨w2.heap.size, 0, none⟩) 0 0 (bools []) rfl L3 A2 0 c2 (bools us) rfl O2a.has (bools_one us) (by omega) (by decide) BL.size ?_; intro A3 c3 w3 O3 G3 B3)
    have O3' : Own w3 w2.heap.size 4 A3 0 c3 (bools us) := by simpa [bools] using O3
    have B23 : Below w2.heap.size w2 w3 := BL.trans B3
    have Q3 := O2.bel B23
    have R3 := R2.bel B23
    have G23 := gr_bel G2 B23
    have s3 := B23.size
    clear L3 BL O2a R2a O3 G3 B3
    refine (pick_any R3 (by omega) (by omega)).mono ?_
    rintro e w8 ⟨u, rfl, hu8, R8, G8⟩
    clear hu8
    have Q8 := Q3.past hrl G8
    have B8 := O3'.past h2l G8
    have G18 := gr_trans G23 G8
    have s8 := G8.size
    by_cases hu0 : u = 0
    · subst hu0
      go_wp2_with (fail)
      refine (l11Up_any R8 (by omega)).mono ?_
      rintro e w9 hX
      unfold BoolsR at hX
      obtain ⟨A9, n9, c9, ws, p9, rfl, O9, hn9, _, R9, G9⟩ := hX
      have Q9 := Q8.past hrl G9
      go_wp2
      go_ret2
      exact ⟨_, _, _, us, _, _, _, ws, rfl, Q9.has, hn2, O9.has, hn9, bel_read B1 R1 (gr_trans G18 G9)⟩
    · have h0B : (u == 0) = false := by simp [hu0]
      clear hu0
      go_wp2
      go_ret2
      exact ⟨_, _, _, us, _, _, _, us, rfl, Q8.has, hn2, B8.has, hn2, bel_read B1 R1 G18⟩

set_option maxRecDepth 100000 in
set_option maxHeartbeats 4000000 in
theorem drawSpreadFrames_any {A : Option Addr} {n c : Nat} {zs : List Int} {w : World} (h : Has w A n (ints .u8 zs)) (hu : U8s zs) (hc : n ≤ c ∧ c ≤ maxLen) :
    Calls Try.prog 31 #[.slice A n c] w fun e w' => BoolsH w w' e := by
  obtain ⟨i0, hi, hz0, hz1, hz2⟩ := info_parts3 Try.infoHop
  go_enter Try.func31, Try.ntmps31
  go_wp2_with (fail)
  refine (open_any h hu hc).mono ?_
  rintro e w1 ⟨r, rfl, R1, B1⟩
  have hrl := R1.lt
  have s1 := B1.size
  go_wp2_with (fail)
  refine (l11Up_any R1 (by omega)).mono ?_
  rintro e w2 hX
  unfold BoolsR at hX
  obtain ⟨A2, n2, c2, us, p2, rfl, O2, hn2, hp2, R2, G2⟩ := hX
  have s2 := G2.size
  have hr2 := R2.lt
  have O3 : OwnH (w2.alloc (.cells #[] 46)) w2.heap.size (some ⟨w2.heap.size, 0, none⟩) 0 0 [] := World.ownsRow_lit w2 #[] 0 (Nat.le_refl _) (by unfold maxLen; omega) rfl
  have BL : Below w2.heap.size w2 (w2.alloc (.cells #[] 46)) := (Below.refl _ _).alloc (Nat.le_refl _) _
  have Q3 := O2.bel BL
  have R3 := R2.bel BL
  have G3 := gr_bel G2 BL
  go_wp2_with (fail)
  refine (num_any (n := 5) (l := [5, 9, 2, 0, 20]) (R3.alloc _) (by omega) (Has.rowAt #[.int .i64 5, .int .i64 9, .int .i64 2, .int .i64 0, .int .i64 20] rfl rfl (by decide) _ (by simp)) (fun ad ha => by injection ha with ha; subst ha; simp; omega) (by omega) (by omega)).mono ?_
  rintro e w4 ⟨v, rfl, hv, R4, G4⟩
  have hvb : 0 ≤ v ∧ v ≤ 20 := by simp at hv; omega
  obtain ⟨k0, rfl⟩ := Int.eq_ofNat_of_zero_le hvb.1
  have hk0 : k0 ≤ 20 := by omega
  clear hv hvb
  have G4' := gr_alloc G4
  have O4 : OwnH w4 w2.heap.size (some ⟨w2.heap.size, 0, none⟩) 0 0 [] := World.ownsRow.kept O3 G4' (.inr (by simp [Value.ownBlock]; omega))
  have Q4 := Q3.past hrl G4'
  have s24 := Nat.le_trans BL.size G4'.size
  have G14 := gr_trans G3 G4'
  have s4 := G14.size
  clear O3 R3 G3 G4 G4' Q3 BL
  go_wp2
  go_loopw [6, 7] (fun v i wr => ∃ (k : Nat) (A' : Option Addr) (m c' : Nat) (hs : List Hop3) (p' : Nat), k + m ≤ 20 ∧ i = .int .i64 (k : Int) ∧ v = .slice A' m c' ∧ OwnH wr w2.heap.size A' m c' hs ∧ Own wr w1.heap.size 4 A2 n2 c2 (bools us) ∧ p' ≤ 100 + 20 * m ∧ Rd wr w.heap.size r p' ∧ w1.grownBy wr (some r) ∧ w2.heap.size ≤ wr.heap.size) (fun _ i _ => (intOf i).toNat)
  case atStart => exact ⟨k0, _, 0, _, [], p2 + 1, by omega, rfl, rfl, O4, Q4, by omega, R4, G14, s24⟩
  case round =>
    obtain ⟨k, A5, m, c5, hs, p5, hkm, rfl, rfl, O5, Q5, hp5, R5, G5, s52⟩ := hrel
    have s5 := G5.size
    by_cases hk : 0 < k
    · have hkB : decide ((k : Int) > 0) = true := by simp; omega
      have hkC : decide (0 < (k : Int)) = true := by simp; omega
      go_wp2_with (fail)
      refine (l6Hop_any R5 (by omega) (by omega)).mono ?_
      rintro e w6 h6
      unfold HopR at h6
      obtain ⟨f, t, q, p6, rfl, _, _, _, hp6, R6, G6⟩ := h6
      have s6 := G6.size
      have O6 : OwnH w6 w2.heap.size A5 m c5 hs := World.ownsRow.kept O5 G6 (by
        cases A5 with
        | none => exact .inl rfl
        | some a => exact .inr (by have := World.ownsRow.lt O5 a.block rfl; simp [Value.ownBlock]; omega))
      have Q6 := Q5.past hrl G6
      have G16 := gr_trans G5 G6
      have BA : Below w6.heap.size w6 (w6.alloc (.cells #[.int .i64 f, .int .i64 t, .int .i64 q] 46)) := (Below.refl _ _).alloc (Nat.le_refl _) _
      have Q6a := Q6.bel BA
      have O6a : (w6.alloc (.cells #[.int .i64 f, .int .i64 t, .int .i64 q] 46)).ownsRow w2.heap.size 46 3 (.slice A5 m c5) m (flat3 hs) := World.ownsRow.alloc O6 _
      go_wp2_with (at_builtin; refine wpList_append_lies (w6.alloc (.cells #[.int .i64 f, .int .i64 t, .int .i64 q] 46)) rfl (.tmp 20) (.tmp 23) 39 rfl w2.heap.size 46 i0 (.agg #[.int .i64 0, .int .i64 0, .int .i64 0]) 3 24 Try.underlying39 hi hz0 hz1 hz2 rfl (by decide) (.slice A5 m c5) m (flat3 hs) rfl O6a ⟨w6.heap.size, 0, none⟩ 1 1 (#[Value.int .i64 f, Value.int .i64 t, Value.int .i64 q] : Array Value).toList rfl rfl (World.news_of_block (heap_alloc_new w6 _)) (by simp [Value.oneCell']) (by decide) (by unfold maxLen; omega) (by omega) (by simp; omega) _ rfl ?_; intro g7 c7 w7 O7 G7 at7 _)
      have e7 : flat3 hs ++ (#[Value.int .i64 f, Value.int .i64 t, Value.int .i64 q] : Array Value).toList = flat3 (hs ++ [(f, t, q)]) := by rw [flat3_app]; rfl
      rw [e7] at O7
      have hb7 : ∀ x, (Value.slice A5 m c5).ownBlock = some x → w2.heap.size ≤ x := fun x hx => (World.ownsRow.lt O5 x hx).1
      have Q7 := Q6a.grown G7 (fun a ha he => by have h1 := hb7 a.block he.symm; have h2 := O2.lt a ha; omega)
      have R6a := R6.alloc (.cells #[.int .i64 f, .int .i64 t, .int .i64 q] 46)
      have R7 := R6a.grown G7 (fun x hx => by have := hb7 x hx; have := R6.1; exact ⟨by omega, by omega⟩)
      have s67 := G7.size
      have G17 := gr_new (gr_bel G16 BA) G7 (fun x hx => by have := hb7 x hx; omega)
      clear O6a O6 G7 at7 R6a e7 hb7 G16
      go_roundw
      case rel => exact ⟨k - 1, _, m + 1, _, hs ++ [(f, t, q)], _, by omega, by go_num, rfl, O7, Q7, by omega, R7, G17, by have h8 := s67; simp at h8; omega⟩
      case measure => simp [intOf]; omega
    · obtain rfl : k = 0 := by omega
      have hkB : decide (((0 : Nat) : Int) > 0) = false := rfl
      have hkC : decide ((0 : Int) > 0) = false := rfl
      go_wp2
      go_ret2
      exact ⟨_, _, _, us, _, _, _, hs, rfl, Q5.has, hn2, O5.has, by omega, bel_read B1 R1 G5⟩
end Go.Proofs.Ytimddobedgopiaa
