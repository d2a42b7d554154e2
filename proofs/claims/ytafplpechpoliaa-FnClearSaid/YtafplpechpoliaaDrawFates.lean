/-
  Chapter 4's draws: what is proved here is which fates, numbers and messages are drawn, and that nothing that was there is written. No condition.
-/
import Derived.Test.YtafplpechpoliaaDraw1
import Derived.Test.YtafplpechpoliaaPass
namespace Go.Proofs.Ytafplpechpoliaa
open Go.RowKit

/-- Numbers as they are drawn for fates. -/
def Few (fs : List Int) : Prop := ∀ f ∈ fs, -1 ≤ f ∧ f ≤ 5
theorem few_nil : Few [] := fun f hf => by cases hf
theorem Few.snoc {fs : List Int} {z : Int} (h : Few fs) (h0 : -1 ≤ z) (h1 : z ≤ 5) : Few (fs ++ [z]) := by
  intro y hy
  rcases List.mem_append.1 hy with hy | hy
  · exact h y hy
  · rw [List.mem_singleton.1 hy]; exact ⟨h0, h1⟩
theorem few_zeros (n : Nat) : Few (List.replicate n 0) := fun f hf => by rw [(List.mem_replicate.1 hf).2]; omega
theorem Few.i64s {fs : List Int} (h : Few fs) : I64s fs := fun z hz => by have := h z hz; omega
theorem zeros_ints (n : Nat) : ints .i64 (List.replicate n 0) = List.replicate n (.int .i64 0) := by simp [ints]
theorem zeros_u8 (n : Nat) : ints .u8 (List.replicate n 0) = List.replicate n (.int .u8 0) := by simp [ints]
theorem msgs_nil : ∀ q ∈ ([] : List (List Int)), U8s q ∧ q.length ≤ 601 := fun q hq => by (cases hq)

set_option maxHeartbeats 2000000 in
theorem l4Fates_any {lo r p : Nat} {w : World} (h : Rd w lo r p) (hp : p ≤ 274877906944) :
    Calls Try.prog 75 #[.pointer (some ⟨r, 0, none⟩)] w fun e w' => ∃ A' n' c' fs p', e = .returned (.slice A' n' c') ∧ Own w' w.heap.size 3 A' n' c' (ints .i64 fs) ∧ Few fs ∧ n' ≤ 30 ∧ p' ≤ p + 100 ∧ Rd w' lo r p' ∧ w.grownBy w' (some r) := by
  have hrl := h.lt
  obtain ⟨i0, hi, hz0, hz1, hz2⟩ := info_parts Try.infoInt
  go_enter Try.func75, Try.ntmps75
  go_wp2_with (fail)
  refine (num_any (n := 4) (l := [2, 1, 3, 8]) ((h.alloc _).alloc _) (by omega) (Has.rowAt #[.int .i64 2, .int .i64 1, .int .i64 3, .int .i64 8] rfl rfl (by decide) _ (by simp)) (fun ad ha => by injection ha with ha; subst ha; simp; omega) (by omega) (by omega)).mono ?_
  rintro e w1 ⟨bad, rfl, hv, R1, G1⟩
  have hbad : 1 ≤ bad ∧ bad ≤ 8 := by simp at hv; omega
  obtain ⟨bd, rfl⟩ := Int.eq_ofNat_of_zero_le (show 0 ≤ bad by omega)
  have hbd : bd ≤ 8 := by omega
  clear hv hbad
  have O1 : Own w1 w.heap.size 3 (some ⟨w.heap.size, 0, none⟩) 0 0 (ints .i64 []) := Own.lit0 (cs := #[]) hrl (by unfold maxLen; simp) G1
  have G1' := gr_alloc (gr_alloc G1)
  have s1 := G1'.size
  have hrl1 := R1.lt
  clear G1
  go_wp2_with (fail)
  refine (num_any (n := 5) (l := [6, 0, 12, 3, 30]) (R1.alloc _) (by omega) (Has.row #[.int .i64 6, .int .i64 0, .int .i64 12, .int .i64 3, .int .i64 30] rfl rfl (by unfold maxLen; omega)) (fun ad ha => by injection ha with ha; subst ha; simp; omega) (by omega) (by omega)).mono ?_
  rintro e w2 ⟨v, rfl, hv, R2, G2⟩
  have hvb : 0 ≤ v ∧ v ≤ 30 := by simp at hv; omega
  obtain ⟨k0, rfl⟩ := Int.eq_ofNat_of_zero_le hvb.1
  have hk0 : k0 ≤ 30 := by omega
  clear hv hvb
  have O2 := (O1.bel ((Below.refl _ _).alloc (Nat.le_refl _) _)).past hrl G2
  have G2' := gr_trans G1' (gr_alloc G2)
  clear O1 G1' G2
  go_wp2
  obtain ⟨wo, rfl⟩ : ∃ wo : World, wo = w2 := ⟨_, rfl⟩
  go_loopw [3, 5] (fun v i wr => ∃ k A' m c' xs p', k + m ≤ 30 ∧ i = .int .i64 ((k : Nat) : Int) ∧ v = .slice A' m c' ∧ Own wr w.heap.size 3 A' m c' (ints .i64 xs) ∧ Few xs ∧ p' ≤ p + 2 + 2 * m ∧ Rd wr lo r p' ∧ w.grownBy wr (some r)) (fun _ i _ => (intOf i).toNat)
  case atStart => exact ⟨k0, _, 0, _, [], p + 1 + 1, by omega, rfl, rfl, O2, few_nil, by omega, R2, G2'⟩
  case round =>
    obtain ⟨k, A3, m, c3, xs, p3, hkm, rfl, rfl, O3, hx, hp3, R3, G3⟩ := hrel
    have hge := G3.size
    by_cases hk : 0 < k
    · have hkB : decide ((0 : Int) < (k : Int)) = true := by simp; omega
      go_wp2_with (fail)
      refine (pick_any R3 (by omega) (by omega)).mono ?_
      rintro e w4 ⟨u, rfl, hu4, R4, G4⟩
      clear hu4
      have O4 := O3.past hrl G4
      have s4 := G4.size
      have G4' := gr_trans G3 G4
      by_cases hu0 : u = 0
      · subst hu0
        go_wp2_with (fail)
        refine (pick_any R4 (by omega) (by omega)).mono ?_
        rintro e w5 ⟨q, rfl, ⟨q0, q1⟩, R5, G5⟩
        have q5 : q ≤ 4 := by omega
        clear q1
        have O5 := O4.past hrl G5
        have s5 := G5.size
        have G5' := gr_trans G4' G5
        go_wp2_with (at_builtin; refine wpList_apps _ rfl (.tmp 21) (.tmp 24) 23 rfl w.heap.size 3 i0 (.int .i64 0) 8 Try.underlying23 hi hz0 hz1 hz2 rfl A3 m c3 _ rfl O5 1 1 #[.int .i64 q] rfl rfl (by simp [Value.oneCell']) (by decide) (by omega) (by decide) (by omega) ?_; intro g6 c6 w6 O6 G6 B6 _)
        go_roundw
        case rel => exact ⟨k - 1, _, m + 1, _, xs ++ [q], _, by omega, by go_num, rfl, by rw [ints_app]; exact O6, hx.snoc (by omega) (by omega), by omega, R5.grown G6 (own_far O5 hrl R5), gr_new G5' G6 (own_ge O5)⟩
        case measure => simp [intOf]; omega
      · have huB : (u == 0) = false := by simp [hu0]
        clear hu0
        go_wp2_with (at_builtin; refine wpList_apps _ rfl (.tmp 26) (.tmp 27) 23 rfl w.heap.size 3 i0 (.int .i64 0) 8 Try.underlying23 hi hz0 hz1 hz2 rfl A3 m c3 _ rfl O4 1 1 #[.int .i64 0] rfl rfl (by simp [Value.oneCell']) (by decide) (by omega) (by decide) (by omega) ?_; intro g6 c6 w6 O6 G6 B6 _)
        go_roundw
        case rel => exact ⟨k - 1, _, m + 1, _, xs ++ [0], _, by omega, by go_num, rfl, by rw [ints_app]; exact O6, hx.snoc (by omega) (by omega), by omega, R4.grown G6 (own_far O4 hrl R4), gr_new G4' G6 (own_ge O4)⟩
        case measure => simp [intOf]; omega
    · have hkB : decide ((0 : Int) < (k : Int)) = false := by simp; omega
      obtain rfl : k = 0 := by omega
      go_wp2
      go_ret
      exact ⟨_, _, _, xs, p3, rfl, O3, hx, by omega, by omega, R3, G3⟩

/-- What is drawn with a source: fates, and how far the source has gone. -/
def FatR (lo r p : Nat) (w w' : World) (e : Ending) : Prop := ∃ A' n' c' fs p', e = .returned (.slice A' n' c') ∧ Own w' w.heap.size 3 A' n' c' (ints .i64 fs) ∧ Few fs ∧ n' ≤ 201 ∧ p' ≤ p + 200 ∧ Rd w' lo r p' ∧ w.grownBy w' (some r)
set_option maxHeartbeats 2000000 in
theorem l4Bent_any {lo r p : Nat} {w : World} (h : Rd w lo r p) (hp : p ≤ 274877906944) :
    Calls Try.prog 48 #[.pointer (some ⟨r, 0, none⟩)] w fun e w' => FatR lo r p w w' e := by
  have hrl := h.lt
  obtain ⟨i0, hi, hz0, hz1, hz2⟩ := info_parts Try.infoInt
  go_enter Try.func48, Try.ntmps48
  go_wp2_with (fail)
  refine (l4Fates_any h (by omega)).mono ?_
  rintro e w1 ⟨A1, n1, c1, fs, p1, rfl, O1, hf, hn1, hp1, R1, G1⟩
  have s1 := G1.size
  go_wp2_with (fail)
  refine (pick_any R1 (by omega) (by omega)).mono ?_
  rintro e w2 ⟨v, rfl, hv, R2, G2⟩
  clear hv
  have O2 := O1.past hrl G2
  have G2' := gr_trans G1 G2
  have s2 := G2.size
  have hr2 := R2.lt
  by_cases hv0 : v = 0
  · subst hv0
    go_wp2_with (fail)
    refine (num_any (n := 2) (l := [5, -1]) (R2.alloc _) (by omega) (Has.row #[.int .i64 5, .int .i64 (-1)] rfl rfl (by unfold maxLen; omega)) (fun ad ha => by injection ha with ha; subst ha; simp; omega) (by omega) (by omega)).mono ?_
    rintro e w3 ⟨z, rfl, hz, R3, G3⟩
    have hzb : -1 ≤ z ∧ z ≤ 5 := by simp at hz; omega
    obtain ⟨z0, z1⟩ := hzb
    clear hz
    have O3 := (O2.bel ((Below.refl _ _).alloc (Nat.le_refl _) _)).past hrl G3
    have G3' := gr_trans G2' (gr_alloc G3)
    have s3 := G3'.size
    go_wp2_with (at_builtin; refine wpList_apps _ rfl (.tmp 10) (.tmp 14) 23 rfl w.heap.size 3 i0 (.int .i64 0) 8 Try.underlying23 hi hz0 hz1 hz2 rfl A1 n1 c1 _ rfl O3 1 1 #[.int .i64 z] rfl rfl (by simp [Value.oneCell']) (by decide) (by omega) (by decide) (by omega) ?_; intro g6 c6 w6 O6 G6 B6 _)
    go_ret
    exact ⟨_, _, _, fs ++ [z], _, rfl, by rw [ints_app]; exact O6, hf.snoc z0 z1, by omega, by omega, R3.grown G6 (own_far O3 hrl R3), gr_new G3' G6 (own_ge O3)⟩
  · have hv0B : (v == 0) = false := by simp [hv0]
    by_cases hv1 : v = 1
    · subst hv1
      have sle : w.heap.size ≤ w2.heap.size := by omega
      go_wp2_with (refine wpList_make_full _ rfl _ _ 23 rfl w2.heap.size 3 i0 (.int .i64 0) 1 Try.underlying23 hi hz0 hz1 .i64 .i64 _ _ 201 rfl rfl (by omega) (by omega) (by rw [hz2]; omega) (by unfold maxLen; omega) (Nat.le_refl _) ?_; intro w3 hown hgrow)
      have hcap : (madeCells (Value.cells (.int .i64 0)) (201 * 1)).toList = ints .i64 (List.replicate 201 0) := by
        rw [Nat.mul_one, zeros_ints]; exact toList_madeCells_one _ _
      have O3 : Own w3 w2.heap.size 3 (some ⟨w2.heap.size, 0, none⟩) 201 201 (ints .i64 (List.replicate 201 0)) := by unfold Own; rw [← hcap]; exact hown
      have B3 : Below w2.heap.size w2 w3 := below_of_grown hgrow (Nat.le_refl _) (fun k hk => by cases hk)
      clear hown hgrow hcap
      go_ret
      exact ⟨_, _, _, _, _, rfl, O3.mono sle, few_zeros 201, by omega, by omega, R2.bel B3, gr_bel G2' B3⟩
    · have hv1B : (v == 1) = false := by simp [hv1]
      clear hv0 hv1
      go_wp2
      go_ret
      exact ⟨_, _, _, fs, _, rfl, O2, hf, by omega, by omega, R2, G2'⟩

/-- What is drawn: fates. -/
def FatO (w w' : World) (e : Ending) : Prop := ∃ A' n' c' fs, e = .returned (.slice A' n' c') ∧ Own w' w.heap.size 3 A' n' c' (ints .i64 fs) ∧ Few fs ∧ n' ≤ 201 ∧ Below w.heap.size w w'
/-- What is drawn: fates and a number. -/
def FatN (w w' : World) (e : Ending) : Prop := ∃ A' n' c' fs v, e = .returned (.tuple #[.slice A' n' c', .int .i64 v]) ∧ Own w' w.heap.size 3 A' n' c' (ints .i64 fs) ∧ Few fs ∧ n' ≤ 201 ∧ -1 ≤ v ∧ v ≤ 61 ∧ Below w.heap.size w w'
/-- What is drawn: fates and messages. -/
def FatL (w w' : World) (e : Ending) : Prop := ∃ A' n' c' fs B' m' d' l, e = .returned (.tuple #[.slice A' n' c', .slice B' m' d']) ∧ Own w' w.heap.size 3 A' n' c' (ints .i64 fs) ∧ Few fs ∧ n' ≤ 201 ∧ OwnL w' w.heap.size B' m' d' l ∧ (∀ q ∈ l, U8s q ∧ q.length ≤ 601) ∧ m' ≤ 15 ∧ Below w.heap.size w w'

set_option maxHeartbeats 1000000 in
theorem drawFateOf_any {A : Option Addr} {n c : Nat} {zs : List Int} {w : World} (h : Has w A n (ints .u8 zs)) (hu : U8s zs) (hc : n ≤ c ∧ c ≤ maxLen) :
    Calls Try.prog 67 #[.slice A n c] w fun e w' => FatN w w' e := by
  go_enter Try.func67, Try.ntmps67
  go_wp2_with (fail)
  refine (open_any h hu hc).mono ?_
  rintro e w1 ⟨r, rfl, R1, B1⟩
  have hrl := R1.lt
  have s1 := B1.size
  go_wp2_with (fail)
  refine (l4Bent_any R1 (by omega)).mono ?_
  rintro e w2 h
  unfold FatR at h
  obtain ⟨A2, n2, c2, fs, p2, rfl, O2, hf, hn2, hp2, R2, G2⟩ := h
  have C2 := bel_read B1 R1 G2
  have s2 := G2.size
  have hr2 := R2.lt
  go_wp2_with (fail)
  refine (num_any (n := 6) (l := [0, 1, 3, 30, -1, 9]) (R2.alloc _) (by omega) (Has.row #[.int .i64 0, .int .i64 1, .int .i64 3, .int .i64 30, .int .i64 (-1), .int .i64 9] rfl rfl (by unfold maxLen; omega)) (fun ad ha => by injection ha with ha; subst ha; simp; omega) (by omega) (by omega)).mono ?_
  rintro e w3 ⟨v, rfl, hv, R3, G3⟩
  have hvb : -1 ≤ v ∧ v ≤ 61 := by simp at hv; omega
  clear hv
  have O3 := (O2.bel ((Below.refl _ _).alloc (Nat.le_refl _) _)).past (by omega) G3
  have C3 := bel_read C2 R2 (gr_alloc G3)
  go_wp2
  go_ret2
  exact ⟨_, _, _, fs, v, rfl, O3.mono s1, hf, hn2, hvb.1, hvb.2, C3⟩
theorem drawFatesBehind_any {A : Option Addr} {n c : Nat} {zs : List Int} {w : World} (h : Has w A n (ints .u8 zs)) (hu : U8s zs) (hc : n ≤ c ∧ c ≤ maxLen) :
    Calls Try.prog 34 #[.slice A n c] w fun e w' => FatN w w' e := by
  go_enter Try.func34, Try.ntmps34
  go_wp2_with (fail)
  refine (drawFateOf_any h hu hc).mono ?_
  rintro e w1 h
  unfold FatN at h
  obtain ⟨A2, n2, c2, fs, v, rfl, O2, hf, hn2, v0, v1, B1⟩ := h
  go_wp2
  go_ret2
  exact ⟨_, _, _, fs, v, rfl, O2, hf, hn2, v0, v1, B1⟩
set_option maxHeartbeats 1000000 in
theorem drawArrivalsOf_any {A : Option Addr} {n c : Nat} {zs : List Int} {w : World} (h : Has w A n (ints .u8 zs)) (hu : U8s zs) (hc : n ≤ c ∧ c ≤ maxLen) :
    Calls Try.prog 16 #[.slice A n c] w fun e w' => FatN w w' e := by
  go_enter Try.func16, Try.ntmps16
  go_wp2_with (fail)
  refine (open_any h hu hc).mono ?_
  rintro e w1 ⟨r, rfl, R1, B1⟩
  have hrl := R1.lt
  have s1 := B1.size
  go_wp2_with (fail)
  refine (l4Bent_any R1 (by omega)).mono ?_
  rintro e w2 h
  unfold FatR at h
  obtain ⟨A2, n2, c2, fs, p2, rfl, O2, hf, hn2, hp2, R2, G2⟩ := h
  have C2 := bel_read B1 R1 G2
  have s2 := G2.size
  have hr2 := R2.lt
  go_wp2_with (fail)
  refine (num_any (n := 8) (l := [5, 0, 8, 20, 60, 61, -1, 2]) (R2.alloc _) (by omega) (Has.row #[.int .i64 5, .int .i64 0, .int .i64 8, .int .i64 20, .int .i64 60, .int .i64 61, .int .i64 (-1), .int .i64 2] rfl rfl (by unfold maxLen; omega)) (fun ad ha => by injection ha with ha; subst ha; simp; omega) (by omega) (by omega)).mono ?_
  rintro e w3 ⟨v, rfl, hv, R3, G3⟩
  have hvb : -1 ≤ v ∧ v ≤ 61 := by simp at hv; omega
  clear hv
  have O3 := (O2.bel ((Below.refl _ _).alloc (Nat.le_refl _) _)).past (by omega) G3
  have C3 := bel_read C2 R2 (gr_alloc G3)
  go_wp2
  go_ret2
  exact ⟨_, _, _, fs, v, rfl, O3.mono s1, hf, hn2, hvb.1, hvb.2, C3⟩
theorem drawLostIn_any {A : Option Addr} {n c : Nat} {zs : List Int} {w : World} (h : Has w A n (ints .u8 zs)) (hu : U8s zs) (hc : n ≤ c ∧ c ≤ maxLen) :
    Calls Try.prog 31 #[.slice A n c] w fun e w' => FatN w w' e := by
  go_enter Try.func31, Try.ntmps31
  go_wp2_with (fail)
  refine (drawArrivalsOf_any h hu hc).mono ?_
  rintro e w1 h
  unfold FatN at h
  obtain ⟨A2, n2, c2, fs, v, rfl, O2, hf, hn2, v0, v1, B1⟩ := h
  go_wp2
  go_ret2
  exact ⟨_, _, _, fs, v, rfl, O2, hf, hn2, v0, v1, B1⟩
set_option maxHeartbeats 1000000 in
theorem drawIsClear_any {A : Option Addr} {n c : Nat} {zs : List Int} {w : World} (h : Has w A n (ints .u8 zs)) (hu : U8s zs) (hc : n ≤ c ∧ c ≤ maxLen) :
    Calls Try.prog 28 #[.slice A n c] w fun e w' => FatO w w' e := by
  obtain ⟨i0, hi, hz0, hz1, hz2⟩ := info_parts Try.infoInt
  go_enter Try.func28, Try.ntmps28
  go_wp2_with (fail)
  refine (open_any h hu hc).mono ?_
  rintro e w1 ⟨r, rfl, R1, B1⟩
  have hrl := R1.lt
  have s1 := B1.size
  go_wp2_with (fail)
  refine (pick_any R1 (by omega) (by omega)).mono ?_
  rintro e w2 ⟨v, rfl, hv, R2, G2⟩
  clear hv
  have C2 := bel_read B1 R1 G2
  have s2 := G2.size
  by_cases hv0 : v = 0
  · subst hv0
    go_wp2_with (fail)
    refine (pick_any R2 (by omega) (by omega)).mono ?_
    rintro e w3 ⟨q, rfl, ⟨q0, q1⟩, R3, G3⟩
    obtain ⟨k, rfl⟩ := Int.eq_ofNat_of_zero_le q0
    have hk : k ≤ 8 := by omega
    clear q1
    have C3 := bel_read C2 R2 G3
    have s3 := C3.size
    go_wp2_with (refine wpList_make_full _ rfl _ _ 23 rfl w3.heap.size 3 i0 (.int .i64 0) 1 Try.underlying23 hi hz0 hz1 .i64 .i64 _ _ k rfl rfl (by omega) (by omega) (by rw [hz2]; omega) (by unfold maxLen; omega) (Nat.le_refl _) ?_; intro w4 hown hgrow)
    have hcap : (madeCells (Value.cells (.int .i64 0)) (k * 1)).toList = ints .i64 (List.replicate k 0) := by
      rw [Nat.mul_one, zeros_ints]; exact toList_madeCells_one _ _
    have O4 : Own w4 w3.heap.size 3 (some ⟨w3.heap.size, 0, none⟩) k k (ints .i64 (List.replicate k 0)) := by unfold Own; rw [← hcap]; exact hown
    have B4 : Below w3.heap.size w3 w4 := below_of_grown hgrow (Nat.le_refl _) (fun k hk => by cases hk)
    clear hown hgrow hcap
    go_ret
    exact ⟨_, _, _, _, rfl, O4.mono s3, few_zeros k, by omega, bel_trans C3 B4⟩
  · have hv0B : (v == 0) = false := by simp [hv0]
    clear hv0
    go_wp2_with (fail)
    refine (l4Bent_any R2 (by omega)).mono ?_
    rintro e w3 h
    unfold FatR at h
    obtain ⟨A3, n3, c3, fs, p3, rfl, O3, hf, hn3, hp3, R3, G3⟩ := h
    go_wp2
    go_ret
    exact ⟨_, _, _, fs, rfl, O3.mono (by omega), hf, hn3, bel_read C2 R2 G3⟩

set_option maxHeartbeats 4000000 in
theorem l4Sent_any {lo r p : Nat} {w : World} (h : Rd w lo r p) (hp : p ≤ 274877906944) :
    Calls Try.prog 60 #[.pointer (some ⟨r, 0, none⟩)] w fun e w' => ∃ A' n' c' l p', e = .returned (.slice A' n' c') ∧ OwnL w' w.heap.size A' n' c' l ∧ (∀ q ∈ l, U8s q ∧ q.length ≤ 601) ∧ n' ≤ 14 ∧ p' ≤ p + 1000 ∧ Rd w' lo r p' ∧ w.grownBy w' (some r) := by
  have hrl := h.lt
  obtain ⟨j0, hj, hy0, hy1, hy2⟩ := info_parts Try.infoSl
  go_enter Try.func60, Try.ntmps60
  go_wp2_with (fail)
  refine (num_any (n := 6) (l := [3, 5, 0, 8, 1, 14]) ((h.alloc _).alloc _) (by omega) (Has.rowAt #[.int .i64 3, .int .i64 5, .int .i64 0, .int .i64 8, .int .i64 1, .int .i64 14] rfl rfl (by decide) _ (by simp)) (fun ad ha => by injection ha with ha; subst ha; simp; omega) (by omega) (by omega)).mono ?_
  rintro e w1 ⟨v, rfl, hv, R1, G1⟩
  have hvb : 0 ≤ v ∧ v ≤ 14 := by simp at hv; omega
  obtain ⟨k0, rfl⟩ := Int.eq_ofNat_of_zero_le hvb.1
  have hk0 : k0 ≤ 14 := by omega
  clear hv hvb
  have O1 : OwnL w1 w.heap.size (some ⟨w.heap.size, 0, none⟩) 0 0 [] := ((ownL_lit w w.heap.size (Nat.le_refl _)).bel ((Below.refl _ _).alloc (Nat.le_refl _) _)).past hrl G1
  have G1' := gr_alloc (gr_alloc G1)
  have s1 := G1'.size
  clear G1
  go_wp2
  obtain ⟨wo, rfl⟩ : ∃ wo : World, wo = w1 := ⟨_, rfl⟩
  go_loopw [3, 4] (fun v i wr => ∃ k A' m c' l p', k + m ≤ 14 ∧ i = .int .i64 ((k : Nat) : Int) ∧ v = .slice A' m c' ∧ OwnL wr w.heap.size A' m c' l ∧ Hid (∀ q ∈ l, U8s q ∧ q.length ≤ 601) ∧ p' ≤ p + 1 + 20 * m ∧ Rd wr lo r p' ∧ w.grownBy wr (some r)) (fun _ i _ => (intOf i).toNat)
  case atStart => exact ⟨k0, _, 0, _, [], p + 1, by omega, rfl, rfl, O1, msgs_nil, by omega, R1, G1'⟩
  case round =>
    obtain ⟨k, A2, m, c2, l, p2, hkm, rfl, rfl, O2, HQ, hp2, R2, G2⟩ := hrel
    have hge := G2.size
    by_cases hk : 0 < k
    · have hkB : decide ((0 : Int) < (k : Int)) = true := by simp; omega
      have hr2 := R2.lt
      go_wp2_with (fail)
      refine (num_any (n := 4) (l := [1, 2, 0, 4]) (R2.alloc _) (by omega) (Has.row #[.int .i64 1, .int .i64 2, .int .i64 0, .int .i64 4] rfl rfl (by unfold maxLen; omega)) (fun ad ha => by injection ha with ha; subst ha; simp; omega) (by omega) (by omega)).mono ?_
      rintro e w4 ⟨v4, rfl, hv4, R4, G4⟩
      have hv4b : 0 ≤ v4 ∧ v4 ≤ 4 := by simp at hv4; omega
      obtain ⟨t, rfl⟩ := Int.eq_ofNat_of_zero_le hv4b.1
      have ht : t ≤ 4 := by omega
      clear hv4 hv4b
      have G4' := gr_alloc G4
      go_wp2_with (fail)
      refine (l1Some_any (n := t) R4 (by omega) (by omega)).mono ?_
      rintro e w5 ⟨A5, c5, xs, rfl, O5, hx, R5, G5⟩
      have G5' := gr_trans G4' G5
      have s5 := G5'.size
      have s4 := G4'.size
      have hl5 := O5.has.len
      obtain ⟨vs, V2⟩ := O2
      have V5 := V2.past hrl G5'
      have O5' := O5.mono (show wr.heap.size ≤ w4.heap.size by omega)
      have HS := V5.snoc V2 s5 hge O5'
      have HQ2 : Hid (∀ q ∈ l ++ [xs], U8s q ∧ q.length ≤ 601) := by
        have hh : ∀ q ∈ l ++ [xs], U8s q ∧ q.length ≤ 601 := by
          intro q hq
          rcases List.mem_append.1 hq with hq | hq
          · exact HQ.out q hq
          · rw [List.mem_singleton.1 hq]; exact ⟨hx, by omega⟩
        exact hh
      clear hl5
      go_wp2_with (at_builtin; refine wpList_apps _ rfl (.tmp 13) (.tmp 19) 31 rfl w.heap.size 22 j0 (.slice none 0 0) 24 Try.underlying31 hj hy0 hy1 hy2 rfl A2 m c2 vs rfl V5.1 1 1 #[.slice A5 t c5] rfl rfl (by simp [Value.oneCell']) (by decide) (by omega) (by decide) (by omega) ?_; intro g6 c6 w6 O6 G6 B6 hat6)
      go_roundw
      case rel => exact ⟨k - 1, _, m + 1, _, _, _, by omega, by go_num, rfl, HS g6 c6 w6 O6 G6 hat6, HQ2, by omega, R5.grown G6 (own_far V5.1 hrl R5), gr_new (gr_trans G2 G5') G6 (own_ge V5.1)⟩
      case measure => simp [intOf]; omega
    · have hkB : decide ((0 : Int) < (k : Int)) = false := by simp; omega
      obtain rfl : k = 0 := by omega
      go_wp2
      go_ret
      exact ⟨_, _, _, l, p2, rfl, O2, HQ.out, by omega, by omega, R2, G2⟩

set_option maxHeartbeats 2000000 in
theorem drawPassWire_any {A : Option Addr} {n c : Nat} {zs : List Int} {w : World} (h : Has w A n (ints .u8 zs)) (hu : U8s zs) (hc : n ≤ c ∧ c ≤ maxLen) :
    Calls Try.prog 23 #[.slice A n c] w fun e w' => FatL w w' e := by
  obtain ⟨i0, hi, hz0, hz1, hz2⟩ := info_parts Try.infoU8
  obtain ⟨j0, hj, hy0, hy1, hy2⟩ := info_parts Try.infoSl
  go_enter Try.func23, Try.ntmps23
  go_wp2_with (fail)
  refine (open_any h hu hc).mono ?_
  rintro e w1 ⟨r, rfl, R1, B1⟩
  have hrl := R1.lt
  have s1 := B1.size
  go_wp2_with (fail)
  refine (l4Bent_any R1 (by omega)).mono ?_
  rintro e w2 h
  unfold FatR at h
  obtain ⟨A2, n2, c2, fs, p2, rfl, O2, hf, hn2, hp2, R2, G2⟩ := h
  have C2 := bel_read B1 R1 G2
  have s2 := G2.size
  have hA2 := O2.lt
  have hr2 := R2.lt
  go_wp2_with (fail)
  refine (l4Sent_any R2 (by omega)).mono ?_
  rintro e w3 ⟨A3, n3, c3, l, p3, rfl, O3, hl, hn3, hp3, R3, G3⟩
  have C3 := bel_read C2 R2 G3
  have s3 := G3.size
  have P3 := O2.past hrl G3
  go_wp2_with (fail)
  refine (pick_any R3 (by omega) (by omega)).mono ?_
  rintro e w4 ⟨v, rfl, hv, R4, G4⟩
  clear hv
  have C4 := bel_read C3 R3 G4
  have s4 := G4.size
  have P4 := P3.past hrl G4
  have O4 := O3.past hr2 G4
  by_cases hv0 : v = 0
  · subst hv0
    have sle : w2.heap.size ≤ w4.heap.size := by omega
    go_wp2_with (first | (refine wpList_make_full _ rfl _ _ 22 rfl w4.heap.size 5 i0 (.int .u8 0) 1 Try.underlying22 hi hz0 hz1 .i64 .i64 _ _ 601 rfl rfl (by omega) (by omega) (by rw [hz2]; omega) (by unfold maxLen; omega) (Nat.le_refl _) ?_; intro w5 hown hgrow; have hcap : (madeCells (Value.cells (.int .u8 0)) (601 * 1)).toList = ints .u8 (List.replicate 601 0) := (by rw [Nat.mul_one, zeros_u8]; exact toList_madeCells_one _ _); have O5 : Own w5 w4.heap.size 5 (some ⟨w4.heap.size, 0, none⟩) 601 601 (ints .u8 (List.replicate 601 0)) := (by unfold Own; rw [← hcap]; exact hown); have B5 : Below w4.heap.size w4 w5 := below_of_grown hgrow (Nat.le_refl _) (fun k hk => by cases hk); clear hown hgrow hcap; have s5 := B5.size; obtain ⟨vs, Ov, HV⟩ := O4.snoc B5 sle O5; have P5 := P4.bel B5) | (at_builtin; refine wpList_apps _ rfl (.tmp 16) (.tmp 18) 31 rfl w2.heap.size 22 j0 (.slice none 0 0) 24 Try.underlying31 hj hy0 hy1 hy2 rfl A3 n3 c3 vs rfl Ov 1 1 #[.slice (some ⟨w4.heap.size, 0, none⟩) 601 601] rfl rfl (by simp [Value.oneCell']) (by decide) (by omega) (by decide) (by omega) ?_; intro g6 c6 w6 O6 G6 B6 hat6))
    go_ret2
    refine ⟨_, _, _, fs, _, _, _, l ++ [List.replicate 601 0], rfl, (P5.earlier (z := w2) hA2 (fun ad ha => ?_) G6).mono s1, hf, hn2, (HV g6 c6 w6 O6 G6 hat6).mono (by omega), ?_, by omega, (bel_trans C4 B5).trans (B6.mono (by omega))⟩
    · subst ha; exact Ov.block.1
    · intro q hq
      rcases List.mem_append.1 hq with hq | hq
      · exact hl q hq
      · rw [List.mem_singleton.1 hq]
        exact ⟨fun z hz => by rw [(List.mem_replicate.1 hz).2]; omega, by rw [List.length_replicate]; omega⟩
  · have hv0B : (v == 0) = false := by simp [hv0]
    clear hv0
    go_wp2
    go_ret2
    exact ⟨_, _, _, fs, _, _, _, l, rfl, P4.mono s1, hf, hn2, O4.mono (by omega), hl, by omega, C4⟩
end Go.Proofs.Ytafplpechpoliaa
