/-
  The draws of StuffBytes and UnstuffBytes: what is proved here is what they return, and that nothing that was there is written. No condition but the lengths.
-/
import Derived.Test.YtlgoadniaiapkaaStuff
import Derived.Test.YtlgoadniaiapkaaDraw1
namespace Go.Proofs.Ytlgoadniaiapkaa
open Go.RowKit

set_option maxHeartbeats 1000000 in
theorem drawStuffBytes_any {A : Option Addr} {n c : Nat} {zs : List Int} {w : World} (h : Has w A n (ints .u8 zs)) (hu : U8s zs) (hc : n ≤ c ∧ c ≤ maxLen) :
    Calls Try.prog 7 #[.slice A n c] w fun e w' => OneC w w' e := by
  go_enter Try.func7, Try.ntmps7
  go_wp2_with (fail)
  refine (open_any h hu hc).mono ?_
  rintro e w1 ⟨r, rfl, R1, B1⟩
  go_wp2_with (fail)
  refine (l1Draw_any R1 (by omega)).mono ?_
  rintro e w2 ⟨A2, n2, c2, xs, p2, rfl, O2, hx, hn2, _, hp2, R2, G2⟩
  go_wp2
  go_ret
  exact ⟨_, _, _, xs, rfl, O2.mono B1.size, hx, hn2, bel_read B1 R1 G2⟩
/-- What is drawn: up to 1200 bytes. -/
def OneD (w w' : World) (e : Ending) : Prop := ∃ A' n' c' xs, e = .returned (.slice A' n' c') ∧ Own w' w.heap.size 5 A' n' c' (ints .u8 xs) ∧ U8s xs ∧ n' ≤ 1200 ∧ Below w.heap.size w w'
set_option maxHeartbeats 2000000 in
theorem drawUnstuffBytes_any {A : Option Addr} {n c : Nat} {zs : List Int} {w : World} (h : Has w A n (ints .u8 zs)) (hu : U8s zs) (hc : n ≤ c ∧ c ≤ maxLen) :
    Calls Try.prog 11 #[.slice A n c] w fun e w' => OneD w w' e := by
  go_enter Try.func11, Try.ntmps11
  go_wp2_with (fail)
  refine (open_any h hu hc).mono ?_
  rintro e w1 ⟨r, rfl, R1, B1⟩
  have hrl := R1.lt
  have s1 := B1.size
  go_wp2_with (fail)
  refine (l1Draw_any R1 (by omega)).mono ?_
  rintro e w2 ⟨A2, n2, c2, xs, p2, rfl, O2, hx, hn2, _, hp2, R2, G2⟩
  have C2 := bel_read B1 R1 G2
  have s2 := G2.size
  go_wp2_with (fail)
  refine (specStuffBytes_any O2.has hx (by omega)).mono ?_
  rintro e w3 ⟨A3, n3, c3, rfl, O3, B3⟩
  have C3 := bel_trans C2 B3
  have R3 := R2.bel B3
  have s3 := B3.size
  have hx3 := stuffB_u8s hx
  have hn3 : n3 ≤ 1200 := by have q1 := O3.has.len; have q2 := stuffB_le xs; omega
  generalize stuffB xs = es at *
  by_cases h0 : n3 = 0
  · subst h0
    go_wp2
    go_ret
    exact ⟨_, _, _, es, rfl, O3.mono (by omega), hx3, by omega, C3⟩
  · have h0B : decide ((0 : Int) < (n3 : Int)) = true := by simp; omega
    go_wp2_with (fail)
    refine (pick_any R3 (by omega) (by omega)).mono ?_
    rintro e w4 ⟨v, rfl, hv, R4, G4⟩
    clear hv
    have O4 := O3.past (by omega) G4
    have C4 := bel_read C3 R3 G4
    have s4 := G4.size
    by_cases hv0 : v = 0
    · subst hv0
      go_wp2_with (fail)
      refine (pick_any R4 (by omega) (by omega)).mono ?_
      rintro e w5 ⟨q, rfl, ⟨q0, q1⟩, R5, G5⟩
      obtain ⟨j, rfl⟩ := Int.eq_ofNat_of_zero_le q0
      have hj : j < n3 := by omega
      clear q1
      have O5 := O4.past (by omega) G5
      have C5 := bel_read C4 R4 G5
      have s5 := G5.size
      have hrl5 := R5.lt
      go_wp2_with (fail)
      refine (num_any (n := 5) (l := [126, 125, 94, 93, 0]) (R5.alloc _) (by omega) (Has.row #[.int .i64 126, .int .i64 125, .int .i64 94, .int .i64 93, .int .i64 0] rfl rfl (by unfold maxLen; omega)) (fun ad ha => by injection ha with ha; subst ha; simp; omega) (by omega) (by omega)).mono ?_
      rintro e w6 ⟨y, rfl, hy, R6, G6⟩
      have hyb : 0 ≤ y ∧ y ≤ 255 := by simp at hy; omega
      obtain ⟨y0, y1⟩ := hyb
      have u6 : IntKind.u8.wrap y = y := u8_wrap y0 y1
      clear hy
      have O6 := (O5.bel ((Below.refl _ _).alloc (Nat.le_refl _) _)).past (by omega) G6
      have C6 := bel_read (C5.alloc (by omega) _) (R5.alloc _) G6
      obtain ⟨g, rfl, hg0, hg1⟩ := O6.head (by omega)
      obtain ⟨old, ho, hd, hf⟩ := O6.at_ (k := j) hj
      have OX := O6.set_ j (.int .u8 y)
      rw [ints_set] at OX
      clear ho
      go_wp2
      go_ret
      exact ⟨_, _, _, _, rfl, OX.mono (by omega), hx3.set_ ⟨y0, y1⟩, by omega, C6.setCell (show w.heap.size ≤ g by omega) _⟩
    · have hv1 : (v == 0) = false := by simp [hv0]
      go_wp2
      go_ret
      exact ⟨_, _, _, es, rfl, O4.mono (by omega), hx3, by omega, C4⟩
end Go.Proofs.Ytlgoadniaiapkaa
