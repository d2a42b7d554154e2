/-
  Chapter 7's model, claims: what is proved here is what FirstClaims and l7Less return, and that they write nothing that was there. Condition: lengths up to 2^24.
-/
import Derived.Test.YtkmdpmhaljieaaaCabC
import Derived.Test.YtkmdpmhaljieaaaListI
import Derived.IntWalk
namespace Go.Proofs.Ytkmdpmhaljieaaa
open Go.RowKit

theorem firstL_succ (k : Nat) : firstL (k + 1) = firstL k ++ [clm0 k] := by simp [firstL, List.range_succ]
set_option maxRecDepth 100000 in
set_option maxHeartbeats 4000000 in
theorem specFirstClaims_w {nz : Int} {w : World} (hz : -9223372036854775808 ≤ nz ∧ nz ≤ 9223372036854775807) :
    Calls Try.prog 38 #[.int .i64 nz] w fun e w' => ∃ A' n' c', e = .returned (.slice A' n' c') ∧ OwnLI w' w.heap.size A' n' c' (firstI nz) ∧ Below w.heap.size w w' := by
  obtain ⟨j0, hj, hy0, hy1, hy2⟩ := info_parts Try.infoSlI
  have L0 : OwnVI (w.alloc (.cells #[] 33)) w.heap.size (some ⟨w.heap.size, 0, none⟩) 0 0 [] [] := ownVI_lit w _ (Nat.le_refl _)
  have B0 : Below w.heap.size w (w.alloc (.cells #[] 33)) := (Below.refl _ _).alloc (Nat.le_refl _) _
  by_cases h8 : nz ≤ 8
  · have h8B : decide (nz ≤ 8) = true := by simp; omega
    have h8C : (nz ≤ 8) = True := by simp; omega
    obtain ⟨m, hm⟩ : ∃ m : Nat, m = nz.toNat := ⟨_, rfl⟩
    have HE := Lib.hid (show firstI nz = firstL m by
      unfold firstI
      by_cases h1 : 1 ≤ nz
      · rw [if_pos ⟨h1, h8⟩, hm]
      · rw [if_neg (fun hh => h1 hh.1), hm, show nz.toNat = 0 by omega]; rfl)
    have hm8 : m ≤ 8 := by omega
    go_enter Try.func38, Try.ntmps38
    go_wp2
    go_loopw [3, 4] (fun v t wr => ∃ (k : Nat) (A' : Option Addr) (c' : Nat), k ≤ m ∧ t = .int .i64 (k : Int) ∧ v = .slice A' k c' ∧ OwnLI wr w.heap.size A' k c' (firstL k) ∧ Below w.heap.size w wr) (fun _ t _ => m - (intOf t).toNat)
    case atStart => exact ⟨0, _, _, Nat.zero_le _, rfl, rfl, ⟨_, L0⟩, B0⟩
    case round =>
      obtain ⟨k, A1, c1, hk, rfl, rfl, ⟨vs, L1⟩, B1⟩ := hrel
      have hge := B1.size
      by_cases hlt : k < m
      · have hltB : decide ((k : Int) < nz) = true := by simp; omega
        have BX : Below wr.heap.size wr (wr.alloc (.cells #[.int .i64 (k : Int), .int .i64 0, .int .i64 (-1), .int .i64 (-1)] 3)) := (Below.refl _ _).alloc (Nat.le_refl _) _
        have OX : Own (wr.alloc (.cells #[.int .i64 (k : Int), .int .i64 0, .int .i64 (-1), .int .i64 (-1)] 3)) wr.heap.size 3 (some ⟨wr.heap.size, 0, none⟩) 4 4 (ints .i64 (clm0 k)) := World.ownsRow_lit wr #[.int .i64 (k : Int), .int .i64 0, .int .i64 (-1), .int .i64 (-1)] 4 (Nat.le_refl _) (by unfold maxLen; omega) rfl
        have L2 := L1.bel BX
        have B2 := B1.trans (BX.mono hge)
        have s2 := BX.size
        have SN := L2.snocV L1 s2 hge OX
        have HS := Lib.hid (firstL_succ k)
        generalize hW2 : wr.alloc (.cells #[.int .i64 (k : Int), .int .i64 0, .int .i64 (-1), .int .i64 (-1)] 3) = W2 at BX OX L2 B2 s2 SN
        go_wp2_with (at_builtin; refine wpList_apps _ rfl (.tmp 15) (.tmp 18) 36 rfl w.heap.size 33 j0 (.slice none 0 0) 24 Try.underlying36 hj hy0 hy1 hy2 rfl A1 k c1 vs rfl L2.1 1 1 #[.slice (some ⟨wr.heap.size, 0, none⟩) 4 4] rfl rfl (by simp [Value.oneCell']) (by decide) (by omega) (by decide) (by omega) ?_; intro g6 c6 w6 O6 G6 B6 hat6)
        have OVn := SN g6 c6 w6 O6 G6 hat6
        have D6 := B2.trans B6
        clear SN O6 G6 hat6 OX L2
        go_roundw
        case rel => exact ⟨k + 1, _, _, by omega, by go_num, rfl, by rw [HS.out]; exact ⟨_, OVn⟩, D6⟩
        case measure => simp [intOf]; omega
      · have hltB : decide ((k : Int) < nz) = false := by simp; omega
        have hkm := Lib.hid (show k = m by omega)
        go_wp2
        go_ret
        exact ⟨_, _, _, rfl, by rw [HE.out, ← hkm.out]; exact ⟨vs, L1⟩, B1⟩
  · have h8B : decide (nz ≤ 8) = false := by simp; omega
    have h0B : decide ((0 : Int) < nz) = true := by simp; omega
    have HE := Lib.hid (show firstI nz = [] by unfold firstI; rw [if_neg (fun hh => h8 hh.2)])
    go_enter Try.func38, Try.ntmps38
    go_wp2
    go_loopw [3, 4] (fun v t wr => t = .int .i64 0 ∧ v = .slice (some ⟨w.heap.size, 0, none⟩) 0 0 ∧ wr = w.alloc (.cells #[] 33)) (fun _ _ _ => 0)
    case atStart => exact ⟨rfl, rfl, rfl⟩
    case round =>
      obtain ⟨rfl, rfl, rfl⟩ := hrel
      go_wp2
      go_ret
      exact ⟨_, _, _, rfl, by rw [HE.out]; exact ⟨_, L0⟩, B0⟩
/-- A claim's number. -/
theorem has_gi {w : World} {A : Option Addr} {xs : List Int} {n : Nat} (h : Has w A n (ints .i64 xs)) {i : Nat} (hi : i < n) : ∃ b o, A = some ⟨b, o, none⟩ ∧ b < w.heap.size ∧ w.cell? ⟨b, o + i, none⟩ = some (.int .i64 (gi xs i)) := by
  obtain ⟨b, o, z, hA, hbl, hx, hc⟩ := h.at_ hi
  refine ⟨b, o, hA, hbl, ?_⟩
  have : gi xs i = z := by unfold gi; rw [List.getD_eq_getElem?_getD, hx]; rfl
  rw [this]; exact hc
set_option maxHeartbeats 4000000 in
theorem l7Less_any {A B : Option Addr} {c d : Nat} {xs ys : List Int} {w : World} (h : Has w A 4 (ints .i64 xs)) (h' : Has w B 4 (ints .i64 ys)) :
    Calls Try.prog 76 #[.slice A 4 c, .slice B 4 d] w fun e w' => e = .returned (.bool (decide (less4 xs ys))) ∧ Below w.heap.size w w' := by
  go_enter Try.func76, Try.ntmps76
  go_wp2
  go_loopw [5] (fun t wr => ∃ k : Nat, k ≤ 4 ∧ t = .int .i64 (k : Int) ∧ Hid (∀ i, i < k → gi xs i = gi ys i) ∧ Below w.heap.size w wr) (fun t _ => 4 - (intOf t).toNat)
  case atStart =>
    have : Hid (∀ i, i < 0 → gi xs i = gi ys i) := fun i hi => by omega
    exact ⟨0, Nat.zero_le _, rfl, this, Below.refl _ _⟩
  case round =>
    obtain ⟨k, hk, rfl, HK, Bw⟩ := hrel
    by_cases hlt : k < 4
    · have hltB : decide ((k : Int) < 4) = true := by simp; omega
      obtain ⟨b1, o1, rfl, hb1, c1⟩ := has_gi (h.bel Bw) hlt
      obtain ⟨b2, o2, rfl, hb2, c2⟩ := has_gi (h'.bel Bw) hlt
      have hk0 : (0 : Int) ≤ (k : Int) := by omega
      have hk1 : (k : Int) < 4 := by omega
      by_cases he : gi xs k = gi ys k
      · have HK2 : Hid (∀ i, i < k + 1 → gi xs i = gi ys i) := fun i hi => by
          by_cases e : i = k
          · subst e; exact he
          · exact HK.out i (by omega)
        have heB : (gi xs k != gi ys k) = false := by simp [he]
        generalize gi xs k = x at *
        generalize gi ys k = y at *
        clear he
        go_wp2
        go_quiet (fail)
        have B4 := Bw.trans (below_drewN (B := w.heap.size) wr nq)
        go_wp2
        go_roundw
        case rel => exact ⟨k + 1, by omega, by go_num, HK2, B4⟩
        case measure => simp [intOf]; omega
      · have heB : (gi xs k != gi ys k) = true := by simp [he]
        have HE := Lib.hid (show decide (less4 xs ys) = decide (gi xs k < gi ys k) by
          rw [decide_eq_decide]
          have hh := HK.out
          unfold less4
          have h4 : k = 0 ∨ k = 1 ∨ k = 2 ∨ k = 3 := by omega
          rcases h4 with rfl | rfl | rfl | rfl
          · omega
          · have e0 := hh 0 (by omega); omega
          · have e0 := hh 0 (by omega); have e1 := hh 1 (by omega); omega
          · have e0 := hh 0 (by omega); have e1 := hh 1 (by omega); have e2 := hh 2 (by omega); omega)
        generalize gi xs k = x at *
        generalize gi ys k = y at *
        clear he
        go_wp2
        go_quiet (fail)
        have B4 := Bw.trans (below_drewN (B := w.heap.size) wr nq)
        have c3 := (below_drewN (B := wr.heap.size) wr nq).cell (p := ⟨b1, o1 + k, none⟩) hb1 |>.trans c1
        have c4 := (below_drewN (B := wr.heap.size) wr nq).cell (p := ⟨b2, o2 + k, none⟩) hb2 |>.trans c2
        generalize wr.drewN nq = w4 at *
        go_wp2
        go_quiet (fail)
        have B5 := B4.trans (below_drewN (B := w.heap.size) w4 nq)
        go_wp2
        go_ret
        exact ⟨ret_bool HE.out.symm, B5⟩
    · have hltB : decide ((k : Int) < 4) = false := by simp; omega
      obtain rfl : k = 4 := by omega
      have HE := Lib.hid (show decide (less4 xs ys) = false by
        rw [decide_eq_false_iff_not]
        have hh := HK.out
        have e0 := hh 0 (by omega); have e1 := hh 1 (by omega); have e2 := hh 2 (by omega); have e3 := hh 3 (by omega)
        unfold less4; omega)
      go_wp2
      go_ret
      exact ⟨ret_bool HE.out.symm, Bw⟩
end Go.Proofs.Ytkmdpmhaljieaaa
