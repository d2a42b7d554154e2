/-
  Chapter 7's draw of arguments of NextClaims: what is proved here is which numbers, cables and claims are drawn, and that nothing that was there is written. No condition.
-/
import Derived.Test.YtkmdpmhaljieaaaDrawCabB
import Derived.Test.YtkmdpmhaljieaaaCabN
namespace Go.Proofs.Ytkmdpmhaljieaaa
open Go.RowKit

/-- What is drawn: a number of bridges, cables, and claims. -/
def CabY (w w' : World) (e : Ending) : Prop := ∃ (m : Nat) (A' : Option Addr) (n' c' : Nat) (ks : List Tri) (B' : Option Addr) (k' d' : Nat) (cl : List (List Int)), e = .returned (.tuple #[.int .i64 (m : Int), .slice A' n' c', .slice B' k' d']) ∧ HasK w' A' n' ks ∧ TinyK ks ∧ n' ≤ 22 ∧ m ≤ 9 ∧ HasLI w' B' k' cl ∧ k' ≤ 8 ∧ Below w.heap.size w w'
theorem picked_b {m v : Int} (h : Picked m v) (hm : 1 ≤ m) : 0 ≤ v ∧ v < m := by unfold Picked at h; omega
/-- A front of an own row. -/
theorem own_front {w : World} {lo n c k : Nat} {e : TypeId} {A : Option Addr} {xs : List Value} (h : Own w lo e A n c xs) (hk : k ≤ n) : Own w lo e A k c (xs.take k) := by
  obtain ⟨h1, h2⟩ := h
  rw [Nat.mul_one] at h1
  refine ⟨by rw [List.length_take, Nat.mul_one]; omega, ?_⟩
  rcases h2 with ⟨hv, h0⟩ | ⟨g, cap, cur, hv, hg, hgb, r1, r2, r3, r4⟩
  · injection hv with v1 v2 v3
    subst v1 v2 v3
    obtain rfl : k = 0 := by omega
    exact .inl ⟨rfl, rfl⟩
  · injection hv with v1 v2 v3
    subst v1 v3
    exact .inr ⟨g, c, cur, rfl, hg, hgb, by omega, r2, r3, by rw [Nat.mul_one] at r4 ⊢; rw [← r4, List.take_take, Nat.min_eq_left hk]⟩
theorem hasLI_put {w : World} {lo lx n c g k m d : Nat} {vs : List Value} {zss : List (List Int)} {X : Option Addr} {zs : List Int} (hw : OwnVI w lo (some ⟨g, 0, none⟩) n c vs zss) (hx : Own w lx 3 X m d (ints .i64 zs)) (hgx : g < lx) (hk : k < n) : HasLI (w.setCell ⟨g, k, none⟩ (.slice X m d)) (some ⟨g, 0, none⟩) n (zss.set k zs) := by
  have hl := hw.2.1
  have hvl : vs.length = n := by have := hw.1.1; omega
  have hgr : w.grownBy (w.setCell ⟨g, k, none⟩ (.slice X m d)) (some g) := grown_set (World.grownBy.refl w (some g)) k _
  refine ⟨vs.set k (.slice X m d), (hw.1.set_ k _).has, by simp [hl], fun i v zs' hvi hzi => ?_⟩
  by_cases hik : i = k
  · subst hik
    rw [List.getElem?_set_self (by omega)] at hvi
    rw [List.getElem?_set_self (by omega)] at hzi
    injection hvi with hvi
    injection hzi with hzi
    subst hvi hzi
    refine ⟨X, m, d, rfl, hx.cap, (hx.grown hgr (fun a ha he => ?_)).has⟩
    subst ha
    injection he with he
    have := hx.block; omega
  · rw [List.getElem?_set_ne (by omega)] at hvi hzi
    obtain ⟨B, q, r, rfl, hB⟩ := hw.2.2.1 i v zs' hvi hzi
    refine ⟨B, q, r, rfl, hB.cap, (hB.grown hgr (fun a ha he => ?_)).has⟩
    subst ha
    exact hw.2.2.2.1 _ (List.mem_of_getElem? hvi) a.block rfl he.symm
set_option maxRecDepth 100000 in
set_option maxHeartbeats 8000000 in
theorem drawNextClaims_any {A : Option Addr} {n c : Nat} {zs : List Int} {w : World} (h : Has w A n (ints .u8 zs)) (hu : U8s zs) (hc : n ≤ c ∧ c ≤ maxLen) :
    Calls Try.prog 39 #[.slice A n c] w fun e w' => CabY w w' e := by
  go_enter Try.func39, Try.ntmps39
  go_wp2_with (fail)
  refine (open_any h hu hc).mono ?_
  rintro e w1 ⟨r, rfl, R1, B1⟩
  have s1 := B1.size
  have hr1 := R1.lt
  go_wp2_with (fail)
  refine (l7Bent_any R1 (by omega)).mono ?_
  rintro e w2 h2
  unfold CabL at h2
  obtain ⟨m, A2, n2, c2, ks, p2, rfl, O2, T2, hn2, hm2, hp2, R2, G2⟩ := h2
  go_wp2_with (fail)
  refine (pick_any R2 (by omega) (by omega)).mono ?_
  rintro e w3 ⟨v, rfl, hv, R3, G3⟩
  have O3 := O2.past hr1 G3
  have C3 := bel_read B1 R1 (gr_trans G2 G3)
  have hr3 := R3.lt
  have s3 : w1.heap.size ≤ w3.heap.size := (gr_trans G2 G3).size
  clear hv O2 R2
  go_wp2_with (fail)
  refine (specClaimsAfter_w O3.has (by omega)).mono ?_
  rintro e w4 ⟨A4, n4, c4, rfl, L4, B4⟩
  have O4 := O3.bel B4
  have R4 := R3.bel B4
  have C4 := bel_trans C3 B4
  have s4 := B4.size
  have hT := (afterI_told (m : Int) ks v).1
  have hln := L4.has.len
  have hn4 : n4 ≤ 8 := by omega
  have HT := Lib.hid (afterI_told (m : Int) ks v)
  generalize afterI (m : Int) ks v = cl at *
  have hA2 : ∀ ad, A2 = some ad → ad.block < w3.heap.size := fun ad had => (World.ownsRow.lt O3 ad.block (by subst had; rfl)).2
  clear O3 B4 hT
  by_cases hz : n4 = 0
  · subst hz
    have hzB : decide ((0 : Int) > 0) = false := rfl
    go_wp2
    refine bodyPost_ret (results_tmp3K rfl _ _ _) rfl ?_
    exact ⟨m, _, _, _, ks, _, 0, _, cl, rfl, O4.has, T2, hn2, hm2, L4.has, by omega, C4⟩
  · have hzB : decide ((n4 : Int) > 0) = true := decide_eq_true (by omega)
    have hzC : decide ((0 : Int) < (n4 : Int)) = true := decide_eq_true (by omega)
    have hzD : decide (0 < n4) = true := decide_eq_true (by omega)
    go_wp2_with (fail)
    refine (pick_any R4 (by omega) (by omega)).mono ?_
    rintro e w5 ⟨v5, rfl, hv5, R5, G5⟩
    have O5 := O4.past hr1 G5
    have L5 := L4.past hr3 G5
    have C5 : Below w.heap.size w w5 := C4.trans (below_of_grown G5 C4.size (fun k hk => by injection hk with hk; subst hk; exact R1.1))
    by_cases hv0 : v5 = 0
    rotate_left
    · have hvB : (v5 == 0) = false := by simp [hv0]
      clear hv0 hv5
      go_wp2
      refine bodyPost_ret (results_tmp3K rfl _ _ _) rfl ?_
      exact ⟨m, _, _, _, ks, _, n4, _, cl, rfl, O5.has, T2, hn2, hm2, L5.has, hn4, C5⟩
    · subst hv0
      have hvB : ((0 : Int) == 0) = true := rfl
      clear hv5 L4 O4 C4 R4
      obtain ⟨gL, hgL, hgL3, hgL5⟩ : ∃ g, A4 = some ⟨g, 0, none⟩ ∧ w3.heap.size ≤ g ∧ g < w5.heap.size := by obtain ⟨vs, hvs⟩ := L5; exact hvs.1.head (by omega)
      subst hgL
      go_wp2_with (fail)
      refine (pick_any (m := (n4 : Int)) R5 (by omega) (by omega)).mono ?_
      rintro e w6 ⟨v6, rfl, hv6, R6, G6⟩
      have hv6b := picked_b hv6 (by omega)
      obtain ⟨i, rfl⟩ := Int.eq_ofNat_of_zero_le hv6b.1
      have hi : i < n4 := by omega
      go_wp2_with (fail)
      refine (pick_any R6 (by omega) (by omega)).mono ?_
      rintro e w7 ⟨a, rfl, hv7, R7, G7⟩
      go_wp2_with (fail)
      refine (num_any (n := 5) (l := [0, 7, 10000, 10001, -1]) (R7.alloc _) (by omega) (Has.row #[.int .i64 0, .int .i64 7, .int .i64 10000, .int .i64 10001, .int .i64 (-1)] rfl rfl (by unfold maxLen; omega)) (fun ad ha => by injection ha with ha; subst ha; have := R7.lt; simp; omega) (by omega) (by omega)).mono ?_
      rintro e w8 ⟨bq, rfl, hv8, R8, G8⟩
      have G58 := gr_trans (gr_trans (gr_trans G6 G7) (gr_alloc G8)) (World.grownBy_alloc w8 (.cells #[.int .i64 a, .int .i64 bq, .int .i64 0, .int .i64 0] 3) (some r))
      have OX : Own (w8.alloc (.cells #[.int .i64 a, .int .i64 bq, .int .i64 0, .int .i64 0] 3)) w8.heap.size 3 (some ⟨w8.heap.size, 0, none⟩) 4 4 (ints .i64 [a, bq, 0, 0]) := World.ownsRow_lit w8 #[.int .i64 a, .int .i64 bq, .int .i64 0, .int .i64 0] 4 (Nat.le_refl _) (by unfold maxLen; omega) rfl
      have R9 := R8.alloc (.cells #[.int .i64 a, .int .i64 bq, .int .i64 0, .int .i64 0] 3)
      have hr8 := R8.lt
      have s58 : w5.heap.size ≤ w8.heap.size := (gr_trans (gr_trans G6 G7) (gr_alloc G8)).size
      clear hv6 hv7 hv8 hv6b R6 R7 R8 G6 G7 G8
      generalize hWX : w8.alloc (.cells #[.int .i64 a, .int .i64 bq, .int .i64 0, .int .i64 0] 3) = WX at G58 OX R9
      go_wp2_with (fail)
      refine (pick_any R9 (by omega) (by omega)).mono ?_
      rintro e w10 ⟨z, rfl, hv10, R10, G10⟩
      have hzb := picked_b hv10 (by omega)
      have G5A := gr_trans G58 G10
      have LA := L5.past hr3 G5A
      have OA := O5.past hr1 G5A
      have CA : Below w.heap.size w w10 := C5.trans (below_of_grown G5A C5.size (fun k hk => by injection hk with hk; subst hk; exact R1.1))
      have OY := OX.past hr8 G10
      obtain ⟨vs, hvs⟩ := LA
      obtain ⟨u, hu', hd, hf⟩ := hvs.1.at_ hi
      have HP := Lib.hid (fun (q : Nat) (hq : q ≤ 4) => show HasLI (w10.setCell ⟨gL, i, none⟩ (.slice (some ⟨w8.heap.size, 0, none⟩) q 4)) (some ⟨gL, 0, none⟩) n4 (cl.set i ([a, bq, 0, 0].take q)) from
        hasLI_put hvs (by have := own_front OY hq; unfold ints at this ⊢; rwa [← List.map_take] at this) (by omega) hi)
      have HK := Lib.hid (fun (V : Value) => show HasK (w10.setCell ⟨gL, i, none⟩ V) A2 n2 ks from
        (show OwnK (w10.setCell ⟨gL, i, none⟩ V) w1.heap.size 29 A2 n2 c2 ks from World.ownsRow.kept OA (grown_set (World.grownBy.refl w10 (some gL)) i V) (by
          cases A2 with
          | none => exact .inl rfl
          | some ad => exact .inr (by have := hA2 ad rfl; simp [Value.ownBlock]; omega))).has)
      have HB := Lib.hid (fun (V : Value) => show Below w.heap.size w (w10.setCell ⟨gL, i, none⟩ V) from CA.setCell (p := ⟨gL, i, none⟩) (by have := C3.size; simp only; omega) V)
      have hu8 : z = 0 ∨ z = 1 ∨ z = 2 ∨ z = 3 ∨ z = 4 ∨ z = 5 ∨ z = 6 ∨ z = 7 := by omega
      clear hvs hv10 hzb hA2 OA OX OY R9 R10 G58 G10 G5A L5 O5 C5 hu'
      rcases hu8 with rfl | rfl | rfl | rfl | rfl | rfl | rfl | rfl
      all_goals
        go_wp2
        refine bodyPost_ret (results_tmp3K rfl _ _ _) rfl ?_
      all_goals first
        | exact ⟨m, _, _, _, ks, _, n4, _, _, rfl, HK.out _, T2, hn2, hm2, HP.out 4 (by omega), hn4, HB.out _⟩
        | exact ⟨m, _, _, _, ks, _, n4, _, _, rfl, HK.out _, T2, hn2, hm2, HP.out 3 (by omega), hn4, HB.out _⟩
end Go.Proofs.Ytkmdpmhaljieaaa
