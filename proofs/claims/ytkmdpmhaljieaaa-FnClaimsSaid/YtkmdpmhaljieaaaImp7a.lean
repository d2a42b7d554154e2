/-
  Chapter 7's program, roots: what is proved here is what these functions return, and that they write nothing that was there. Condition: lengths up to 2^24.
-/
import Derived.Test.YtkmdpmhaljieaaaCabC
namespace Go.Proofs.Ytkmdpmhaljieaaa
open Go.RowKit

theorem areBridges_any (n : Int) (w : World) : Calls Try.prog 63 #[.int .i64 n] w fun e w' => e = .returned (.bool (decide (1 ≤ n ∧ n ≤ 8))) ∧ w = w' := by
  by_cases h1 : 1 ≤ n
  · have h1B : decide (n ≥ 1) = true := by simp; omega
    have h1C : decide (1 ≤ n) = true := by simp; omega
    by_cases h2 : n ≤ 8
    · have h2B : decide (n ≤ 8) = true := by simp; omega
      have HE := Lib.hid (decide_eq_true (show 1 ≤ n ∧ n ≤ 8 from ⟨h1, h2⟩))
      clear h1 h2
      go_enter Try.func63, Try.ntmps63
      go_wp2
      go_ret
      exact ⟨ret_bool HE.out.symm, rfl⟩
    · have h2B : decide (n ≤ 8) = false := by simp; omega
      have HE := Lib.hid (decide_eq_false (show ¬ (1 ≤ n ∧ n ≤ 8) from fun hh => h2 hh.2))
      clear h1 h2
      go_enter Try.func63, Try.ntmps63
      go_wp2
      go_ret
      exact ⟨ret_bool HE.out.symm, rfl⟩
  · have h1B : decide (n ≥ 1) = false := by simp; omega
    have h1C : decide (1 ≤ n) = false := by simp; omega
    have HE := Lib.hid (decide_eq_false (show ¬ (1 ≤ n ∧ n ≤ 8) from fun hh => h1 hh.1))
    clear h1
    go_enter Try.func63, Try.ntmps63
    go_wp2
    go_ret
    exact ⟨ret_bool HE.out.symm, rfl⟩
theorem areBridges_b {n : Int} {b : Bool} (w : World) (h : decide (1 ≤ n ∧ n ≤ 8) = b) : Calls Try.prog 63 #[.int .i64 n] w fun e w' => e = .returned (.bool b) ∧ w = w' := by rw [← h]; exact areBridges_any n w
theorem isBridge_any (b n : Int) (w : World) : Calls Try.prog 59 #[.int .i64 b, .int .i64 n] w fun e w' => e = .returned (.bool (decide (0 ≤ b ∧ b ≤ n - 1))) ∧ w = w' := by
  by_cases h1 : 0 ≤ b
  · have h1B : decide (b ≥ 0) = true := by simp; omega
    have h1C : decide (0 ≤ b) = true := by simp; omega
    by_cases h2 : b < n
    · have h2B : decide (b < n) = true := by simp; omega
      have HE := Lib.hid (decide_eq_true (show 0 ≤ b ∧ b ≤ n - 1 from ⟨h1, by omega⟩))
      clear h1 h2
      go_enter Try.func59, Try.ntmps59
      go_wp2
      go_ret
      exact ⟨ret_bool HE.out.symm, rfl⟩
    · have h2B : decide (b < n) = false := by simp; omega
      have HE := Lib.hid (decide_eq_false (show ¬ (0 ≤ b ∧ b ≤ n - 1) from fun hh => by have := hh.2; omega))
      clear h1 h2
      go_enter Try.func59, Try.ntmps59
      go_wp2
      go_ret
      exact ⟨ret_bool HE.out.symm, rfl⟩
  · have h1B : decide (b ≥ 0) = false := by simp; omega
    have h1C : decide (0 ≤ b) = false := by simp; omega
    have HE := Lib.hid (decide_eq_false (show ¬ (0 ≤ b ∧ b ≤ n - 1) from fun hh => h1 hh.1))
    clear h1
    go_enter Try.func59, Try.ntmps59
    go_wp2
    go_ret
    exact ⟨ret_bool HE.out.symm, rfl⟩
theorem isBridge_yes {b n : Int} (w : World) (h : 0 ≤ b ∧ b ≤ n - 1) : Calls Try.prog 59 #[.int .i64 b, .int .i64 n] w fun e w' => e = .returned (.bool true) ∧ w = w' := by have := isBridge_any b n w; rwa [decide_eq_true h] at this
theorem isBridge_no {b n : Int} (w : World) (h : ¬ (0 ≤ b ∧ b ≤ n - 1)) : Calls Try.prog 59 #[.int .i64 b, .int .i64 n] w fun e w' => e = .returned (.bool false) ∧ w = w' := by have := isBridge_any b n w; rwa [decide_eq_false h] at this

set_option maxHeartbeats 4000000 in
theorem implCablesValid_w {A : Option Addr} {n c : Nat} {ks : List Tri} {nz : Int} {w : World} (h : HasK w A n ks) (hn : n ≤ 16777216) :
    Calls Try.prog 22 #[.int .i64 nz, .slice A n c] w fun e w' => e = .returned (.bool (decide (kOk nz ks))) ∧ Below w.heap.size w w' := by
  have HL := Lib.hid h.1
  by_cases hz : 1 ≤ nz ∧ nz ≤ 8
  · have C1 := Lib.hid (areBridges_b w (decide_eq_true hz))
    by_cases h20 : n ≤ 20
    · have h20B : decide ((n : Int) > 20) = false := by simp; omega
      have h20C : decide (20 < (n : Int)) = false := by simp; omega
      have hz1 := hz.1
      have hz2 := hz.2
      go_enter Try.func22, Try.ntmps22
      go_wp2_with (fail)
      refine C1.out.mono ?_
      rintro e w' ⟨rfl, rfl⟩
      go_wp2
      go_loopw [17] (fun i wr => ∃ k : Nat, k ≤ n ∧ i = .int .i64 k ∧ Hid (∀ f ∈ ks.take k, kabOk nz f) ∧ Below w.heap.size w wr) (fun i _ => n - (intOf i).toNat)
      case atStart =>
        have : Hid (∀ f ∈ ks.take 0, kabOk nz f) := fun f hf => by simp at hf
        exact ⟨0, Nat.zero_le _, rfl, this, Below.refl _ _⟩
      case round =>
        obtain ⟨k, hk, rfl, HF, B⟩ := hrel
        have hge := B.size
        by_cases hlt : k < n
        · have hltB : decide ((k : Int) < (n : Int)) = true := by simp; omega
          obtain ⟨b, o, f, t, q, rfl, hbl, hx, d0, d1, d2⟩ := (h.bel B).at_ hlt
          have hHn := heap_alloc_new wr (.cells #[.int .i64 f, .int .i64 t, .int .i64 q] 29)
          have hHz := heap_alloc_new wr (.cells #[.int .i64 0, .int .i64 0, .int .i64 0] 29)
          obtain ⟨y0, y1, y2⟩ := cells3K hHz
          obtain ⟨x0, x1, x2⟩ := cells3K hHn
          have BA := B.alloc hge (.cells #[.int .i64 f, .int .i64 t, .int .i64 q] 29)
          have HM := Lib.hid (List.mem_of_getElem? hx)
          have HT := Lib.hid (show ∀ g ∈ ks.take (k + 1), g ∈ ks.take k ∨ g = (f, t, q) from fun g hg => by
            rw [List.take_add_one, hx] at hg
            rcases List.mem_append.1 hg with hg | hg
            · exact Or.inl hg
            · right; simpa using hg)
          clear hx hHn hHz
          by_cases h1 : 0 ≤ f ∧ f ≤ nz - 1
          · have D1 := Lib.hid (fun W => isBridge_yes W h1)
            by_cases h2 : 0 ≤ t ∧ t ≤ nz - 1
            · have D2 := Lib.hid (fun W => isBridge_yes W h2)
              by_cases h3 : f = t
              · have h3B : (f == t) = true := by simp [h3]
                have HB : Hid (¬ kOk nz ks) := kOk_not HM.out (fun hh => hh.2.2.1 h3)
                clear h1 h2 h3
                go_wp2_with (fail)
                refine (D1.out _).mono ?_
                rintro e w' ⟨rfl, rfl⟩
                go_wp2_with (fail)
                refine (D2.out _).mono ?_
                rintro e w' ⟨rfl, rfl⟩
                go_wp2
                go_ret
                exact ⟨ret_bool (by rw [decide_eq_false HB.out]), BA⟩
              · have h3B : (f == t) = false := by simp [h3]
                by_cases h4 : 1 ≤ q
                · have h4B : decide (q < 1) = false := by simp; omega
                  by_cases h5 : q ≤ 99
                  · have h5B : decide (q > 99) = false := by simp; omega
                    have h5C : decide (99 < q) = false := by simp; omega
                    have HF2 : Hid (∀ g ∈ ks.take (k + 1), kabOk nz g) := fun g hg => by
                      rcases HT.out g hg with hg | rfl
                      · exact HF.out g hg
                      · exact ⟨h1, h2, h3, h4, h5⟩
                    clear h1 h2 h3 h4 h5
                    go_wp2_with (fail)
                    refine (D1.out _).mono ?_
                    rintro e w' ⟨rfl, rfl⟩
                    go_wp2_with (fail)
                    refine (D2.out _).mono ?_
                    rintro e w' ⟨rfl, rfl⟩
                    go_wp2
                    go_roundw
                    case rel => exact ⟨k + 1, by omega, by go_num, HF2, BA⟩
                    case measure => simp [intOf]; omega
                  · have h5B : decide (q > 99) = true := by simp; omega
                    have h5C : decide (99 < q) = true := by simp; omega
                    have HB : Hid (¬ kOk nz ks) := kOk_not HM.out (fun hh => h5 hh.2.2.2.2)
                    clear h1 h2 h3 h4 h5
                    go_wp2_with (fail)
                    refine (D1.out _).mono ?_
                    rintro e w' ⟨rfl, rfl⟩
                    go_wp2_with (fail)
                    refine (D2.out _).mono ?_
                    rintro e w' ⟨rfl, rfl⟩
                    go_wp2
                    go_ret
                    exact ⟨ret_bool (by rw [decide_eq_false HB.out]), BA⟩
                · have h4B : decide (q < 1) = true := by simp; omega
                  have HB : Hid (¬ kOk nz ks) := kOk_not HM.out (fun hh => h4 hh.2.2.2.1)
                  clear h1 h2 h3 h4
                  go_wp2_with (fail)
                  refine (D1.out _).mono ?_
                  rintro e w' ⟨rfl, rfl⟩
                  go_wp2_with (fail)
                  refine (D2.out _).mono ?_
                  rintro e w' ⟨rfl, rfl⟩
                  go_wp2
                  go_ret
                  exact ⟨ret_bool (by rw [decide_eq_false HB.out]), BA⟩
            · have D2 := Lib.hid (fun W => isBridge_no W h2)
              have HB : Hid (¬ kOk nz ks) := kOk_not HM.out (fun hh => h2 hh.2.1)
              clear h1 h2
              go_wp2_with (fail)
              refine (D1.out _).mono ?_
              rintro e w' ⟨rfl, rfl⟩
              go_wp2_with (fail)
              refine (D2.out _).mono ?_
              rintro e w' ⟨rfl, rfl⟩
              go_wp2
              go_ret
              exact ⟨ret_bool (by rw [decide_eq_false HB.out]), BA⟩
          · have D1 := Lib.hid (fun W => isBridge_no W h1)
            have HB : Hid (¬ kOk nz ks) := kOk_not HM.out (fun hh => h1 hh.1)
            clear h1
            go_wp2_with (fail)
            refine (D1.out _).mono ?_
            rintro e w' ⟨rfl, rfl⟩
            go_wp2
            go_ret
            exact ⟨ret_bool (by rw [decide_eq_false HB.out]), BA⟩
        · have hltB : decide ((k : Int) < (n : Int)) = false := by simp; omega
          obtain rfl : k = n := by omega
          have HE : Hid (kOk nz ks) := by
            have h1 := HF.out
            have h2 := HL.out
            rw [List.take_of_length_le (by omega)] at h1
            exact (⟨⟨hz1, hz2⟩, by omega, h1⟩ : kOk nz ks)
          go_wp2
          go_ret
          exact ⟨ret_bool (by rw [decide_eq_true HE.out]), B⟩
    · have h20B : decide ((n : Int) > 20) = true := by simp; omega
      have h20C : decide (20 < (n : Int)) = true := by simp; omega
      have HB : Hid (¬ kOk nz ks) := fun hg => h20 (by have h1 := hg.2.1; have h2 := HL.out; omega)
      clear hz
      go_enter Try.func22, Try.ntmps22
      go_wp2_with (fail)
      refine C1.out.mono ?_
      rintro e w' ⟨rfl, rfl⟩
      go_wp2
      go_ret
      exact ⟨ret_bool (by rw [decide_eq_false HB.out]), Below.refl _ _⟩
  · have C1 := Lib.hid (areBridges_b w (decide_eq_false hz))
    have HB : Hid (¬ kOk nz ks) := fun hg => hz hg.1
    clear hz
    go_enter Try.func22, Try.ntmps22
    go_wp2_with (fail)
    refine C1.out.mono ?_
    rintro e w' ⟨rfl, rfl⟩
    go_wp2
    go_ret
    exact ⟨ret_bool (by rw [decide_eq_false HB.out]), Below.refl _ _⟩
theorem implCablesValid_b {A : Option Addr} {n c : Nat} {ks : List Tri} {nz : Int} {w : World} {b : Bool} (h : HasK w A n ks) (hn : n ≤ 16777216) (hb : decide (kOk nz ks) = b) :
    Calls Try.prog 22 #[.int .i64 nz, .slice A n c] w fun e w' => e = .returned (.bool b) ∧ Below w.heap.size w w' := by rw [← hb]; exact implCablesValid_w h hn

theorem Try.underlyingSets : Try.prog.underlying 85 = some (.slice 3) := by kernel_rfl
set_option maxHeartbeats 1000000 in
theorem smallest_any {A : Option Addr} {n c b : Nat} {s : List Nat} {w : World} (h : Has w A n (cI s)) (hs : ∀ b, b < n → gn s b ≤ b) (hb : b < n) :
    Calls Try.prog 83 #[.slice A n c, .int .i64 (b : Int)] w fun e w' => e = .returned (.int .i64 (sm s b : Int)) ∧ w = w' := by
  have HS := Lib.hid hs
  clear hs
  go_enter Try.func83, Try.ntmps83
  go_wp2
  go_loop [1] (fun t => ∃ x : Nat, x < n ∧ t = .int .i64 (x : Int) ∧ Hid (sm s x = sm s b)) (fun t => (intOf t).toNat)
  case atStart => exact ⟨b, hb, rfl, Lib.hid rfl⟩
  case round =>
    obtain ⟨x, hx, rfl, HX⟩ := hrel
    obtain ⟨g, o, rfl, hbl, hc⟩ := has_cI h hx
    have hle := HS.out x hx
    by_cases hlt : gn s x < x
    · have hne : ((gn s x : Int) != (x : Int)) = true := by simp; omega
      have HX2 := Lib.hid ((sm_down hlt).symm.trans HX.out)
      generalize gn s x = y at *
      go_wp2
      go_round
      case rel => exact ⟨y, by omega, rfl, HX2⟩
      case measure => simp [intOf]; omega
    · have he : gn s x = x := by omega
      have HX2 := Lib.hid ((sm_fix hlt).symm.trans HX.out)
      rw [he] at hc
      have hne : ((x : Int) != (x : Int)) = false := by simp
      clear he hlt hle
      go_wp2
      go_ret
      exact ⟨ret_int (by rw [← HX2.out]), rfl⟩
theorem one_grownK (w : World) (B k : Nat) (v : Value) : w.grownBy (w.setCell ⟨B, k, none⟩ v) (some B) :=
  grown_set (World.grownBy.refl w (some B)) k v
set_option maxHeartbeats 1000000 in
theorem join_any {lo n c g : Nat} {s : List Nat} {cb : Cab} {w : World} (h : Own w lo 3 (some ⟨g, 0, none⟩) n c (cI s)) (hs : ∀ b, b < n → gn s b ≤ b) (h1 : cb.1 < n) (h2 : cb.2.1 < n) :
    Calls Try.prog 82 #[.slice (some ⟨g, 0, none⟩) n c, .int .i64 (cb.1 : Int), .int .i64 (cb.2.1 : Int)] w fun e w' => e = .returned (.tuple #[]) ∧ Own w' lo 3 (some ⟨g, 0, none⟩) n c (cI (joinS s cb)) ∧ w.grownBy w' (some g) := by
  have C1 := Lib.hid (smallest_any (c := c) h.has hs h1)
  have C2 := Lib.hid (smallest_any (c := c) h.has hs h2)
  have l1 := sm_le s _ cb.1 (Nat.le_refl _)
  have l2 := sm_le s _ cb.2.1 (Nat.le_refl _)
  have hmx : max (sm s cb.1) (sm s cb.2.1) < n := by omega
  have HJ := Lib.hid (show joinS s cb = s.set (max (sm s cb.1) (sm s cb.2.1)) (min (sm s cb.1) (sm s cb.2.1)) from rfl)
  obtain ⟨x1, f1⟩ := own_cI h hmx
  have O2 := h.set_ (max (sm s cb.1) (sm s cb.2.1)) (.int .i64 ((min (sm s cb.1) (sm s cb.2.1) : Nat) : Int))
  rw [cI_set, ← HJ.out] at O2
  have G2 := one_grownK w g (max (sm s cb.1) (sm s cb.2.1)) (.int .i64 ((min (sm s cb.1) (sm s cb.2.1) : Nat) : Int))
  have e1 : max (sm s cb.1 : Int) (sm s cb.2.1 : Int) = ((max (sm s cb.1) (sm s cb.2.1) : Nat) : Int) := by omega
  have e2 : min (sm s cb.1 : Int) (sm s cb.2.1 : Int) = ((min (sm s cb.1) (sm s cb.2.1) : Nat) : Int) := by omega
  generalize hmm : max (sm s cb.1) (sm s cb.2.1) = mx at *
  generalize hmn : min (sm s cb.1) (sm s cb.2.1) = mn at *
  generalize sm s cb.1 = u at *
  generalize sm s cb.2.1 = v at *
  clear hmm hmn l1 l2 HJ
  have HO := Lib.hid O2
  have HG := Lib.hid G2
  clear O2 G2
  go_enter Try.func82, Try.ntmps82
  go_wp2_with (fail)
  refine C1.out.mono ?_
  rintro e w1 ⟨rfl, rfl⟩
  go_wp2_with (fail)
  refine C2.out.mono ?_
  rintro e w2 ⟨rfl, rfl⟩
  go_wp2
  refine bodyPost_end (results_none rfl _ _ _) rfl ?_
  exact ⟨rfl, HO.out, HG.out⟩
end Go.Proofs.Ytkmdpmhaljieaaa
