/-
  Chapter 1's draws: what is proved here is which bytes are drawn, and that nothing but the source is written. Condition: few numbers are drawn.
-/
import Derived.Test.YtafplpechpoliaaDraw
namespace Go.Proofs.Ytafplpechpoliaa
open Go.RowKit

theorem U8s.snoc {zs : List Int} {z : Int} (h : U8s zs) (h0 : 0 ≤ z) (h1 : z ≤ 255) : U8s (zs ++ [z]) := by
  intro y hy
  rcases List.mem_append.1 hy with hy | hy
  · exact h y hy
  · rw [List.mem_singleton.1 hy]; exact ⟨h0, h1⟩

set_option maxHeartbeats 2000000 in
theorem l1Some_any {lo r p n : Nat} {w : World} (h : Rd w lo r p) (hp : p ≤ 549755813888) (hn : n ≤ 1000000) :
    Calls Try.prog 78 #[.pointer (some ⟨r, 0, none⟩), .int .i64 n] w fun e w' => ∃ A' c' zs, e = .returned (.slice A' n c') ∧ Own w' w.heap.size 5 A' n c' (ints .u8 zs) ∧ U8s zs ∧ Rd w' lo r (p + 2 * n) ∧ w.grownBy w' (some r) := by
  obtain ⟨i0, hi, hz0, hz1, hz2⟩ := info_parts Try.infoU8
  have hrl := h.lt
  go_enter Try.func78, Try.ntmps78
  go_wp2
  go_loopw [5, 6] (fun v i wr => ∃ k A' c' zs, k ≤ n ∧ i = .int .i64 ((k : Nat) : Int) ∧ v = .slice A' k c' ∧ Own wr w.heap.size 5 A' k c' (ints .u8 zs) ∧ U8s zs ∧ Rd wr lo r (p + 2 * k) ∧ w.grownBy wr (some r)) (fun _ i _ => n - (intOf i).toNat)
  case atStart => exact ⟨0, _, _, [], Nat.zero_le _, rfl, rfl, World.ownsRow_lit w #[] 0 (Nat.le_refl _) (by unfold maxLen; omega) rfl, (fun z hz => by cases hz), h.alloc _, World.grownBy_alloc _ _ _⟩
  case round =>
    obtain ⟨k, A1, c1, zs, hk, rfl, rfl, O1, hu, R1, G1⟩ := hrel
    have hge := G1.size
    by_cases hlt : k < n
    · have hltB : decide ((k : Int) < (n : Int)) = true := by simp; omega
      go_wp2_with (fail)
      refine (pick_any R1 (by omega) (by omega)).mono ?_
      rintro e w2 ⟨v, rfl, hv, R2, G2⟩
      have O2 := O1.past hrl G2
      have s2 := G2.size
      have HV := Lib.hid hv
      clear hv
      by_cases h0 : v = 0
      · subst h0
        go_wp2_with (fail)
        refine (num_any (n := 9) (l := [0, 1, 125, 126, 127, 128, 255, 94, 93]) (R2.alloc _) (by omega) (Has.row #[.int .i64 0, .int .i64 1, .int .i64 125, .int .i64 126, .int .i64 127, .int .i64 128, .int .i64 255, .int .i64 94, .int .i64 93] rfl rfl (by unfold maxLen; omega)) (fun ad ha => by injection ha with ha; subst ha; simp; omega) (by omega) (by omega)).mono ?_
        rintro e w3 ⟨u, rfl, hu3, R3, G3⟩
        have hub : 0 ≤ u ∧ u ≤ 255 := by simp at hu3; omega
        obtain ⟨hu0, hu1⟩ := hub
        have O3 := (O2.bel ((Below.refl _ _).alloc (Nat.le_refl _) _)).past hrl G3
        have G3' := gr_trans G2 (gr_alloc G3)
        have s3 := (gr_alloc G3).size
        clear hu3
        go_wp2_with (at_builtin; refine wpList_apps _ rfl (.tmp 23) (.tmp 28) 22 rfl w.heap.size 5 i0 (.int .u8 0) 1 Try.underlying22 hi hz0 hz1 hz2 rfl A1 k c1 _ rfl O3 1 1 #[.int .u8 u] rfl rfl (by simp [Value.oneCell']) (by decide) (by omega) (by decide) (by omega) ?_; intro g cap w4 O4 G4 B4 _)
        go_roundw
        case rel => exact ⟨k + 1, _, _, zs ++ [u], by omega, by go_num, rfl, by rw [ints_app]; exact O4, hu.snoc hu0 hu1, by rw [show p + 2 * (k + 1) = p + 2 * k + 1 + 1 by omega]; exact R3.grown G4 (own_far O3 hrl R3), gr_new (gr_trans G1 G3') G4 (own_ge O3)⟩
        case measure => simp [intOf]; omega
      · have h0b : (v == 0) = false := by simp [h0]
        go_wp2_with (fail)
        refine (pick_any R2 (by omega) (by omega)).mono ?_
        rintro e w3 ⟨u, rfl, hu3, R3, G3⟩
        obtain ⟨hu0, hu1'⟩ := hu3
        have hu1 : u ≤ 255 := by omega
        have O3 := O2.past hrl G3
        have G3' := gr_trans G2 G3
        have s3 := G3.size
        clear hu1'
        go_wp2_with (at_builtin; refine wpList_apps _ rfl (.tmp 15) (.tmp 19) 22 rfl w.heap.size 5 i0 (.int .u8 0) 1 Try.underlying22 hi hz0 hz1 hz2 rfl A1 k c1 _ rfl O3 1 1 #[.int .u8 u] rfl rfl (by simp [Value.oneCell']) (by decide) (by omega) (by decide) (by omega) ?_; intro g cap w4 O4 G4 B4 _)
        go_roundw
        case rel => exact ⟨k + 1, _, _, zs ++ [u], by omega, by go_num, rfl, by rw [ints_app]; exact O4, hu.snoc hu0 hu1, by rw [show p + 2 * (k + 1) = p + 2 * k + 1 + 1 by omega]; exact R3.grown G4 (own_far O3 hrl R3), gr_new (gr_trans G1 G3') G4 (own_ge O3)⟩
        case measure => simp [intOf]; omega
    · obtain rfl : k = n := by omega
      go_wp2
      go_ret
      exact ⟨_, _, _, rfl, O1, hu, R1, G1⟩

theorem bel_read {w w1 w2 : World} {r p : Nat} (B : Below w.heap.size w w1) (R : Rd w1 w.heap.size r p) (G : w1.grownBy w2 (some r)) : Below w.heap.size w w2 :=
  B.trans (below_of_grown G B.size (fun k hk => by injection hk with hk; subst hk; exact R.1))

theorem I64s.snoc {zs : List Int} {z : Int} (h : I64s zs) (h0 : -9223372036854775808 ≤ z) (h1 : z ≤ 9223372036854775807) : I64s (zs ++ [z]) := by
  intro y hy
  rcases List.mem_append.1 hy with hy | hy
  · exact h y hy
  · rw [List.mem_singleton.1 hy]; exact ⟨h0, h1⟩
theorem I64s.set_ {zs : List Int} {z : Int} {k : Nat} (h : I64s zs) (h0 : -9223372036854775808 ≤ z) (h1 : z ≤ 9223372036854775807) : I64s (zs.set k z) := by
  intro y hy
  rcases List.mem_or_eq_of_mem_set hy with hy | rfl
  · exact h y hy
  · exact ⟨h0, h1⟩



/-- What is drawn: bytes. -/
def OneC (w w' : World) (e : Ending) : Prop := ∃ A' n' c' xs, e = .returned (.slice A' n' c') ∧ Own w' w.heap.size 5 A' n' c' (ints .u8 xs) ∧ U8s xs ∧ n' ≤ 601 ∧ Below w.heap.size w w'
end Go.Proofs.Ytafplpechpoliaa
