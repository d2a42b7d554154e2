/-
  Chapter 7's draws of cables: what is proved here is which numbers and cables are drawn, and that nothing that was there is written. No condition.
-/
import Derived.Test.YtkmdpmhaljieaaaRowsK
import Derived.Test.YtkmdpmhaljieaaaMathCab
import Derived.IntWalk
import Derived.BigRegion
namespace Go.Proofs.Ytkmdpmhaljieaaa
open Go.RowKit

/-- Cables as they are drawn. -/
def TinyK (ks : List Tri) : Prop := ∀ k ∈ ks, (0 ≤ k.1 ∧ k.1 ≤ 100) ∧ (0 ≤ k.2.1 ∧ k.2.1 ≤ 100) ∧ (0 ≤ k.2.2 ∧ k.2.2 ≤ 100)
theorem TinyK.i64 {ks : List Tri} (h : TinyK ks) : I64K ks := fun x hx => by
  obtain ⟨h1, h2, h3⟩ := h x hx
  exact ⟨by omega, by omega, by omega⟩
theorem tinyK_nil : TinyK [] := fun h hh => by cases hh
theorem TinyK.snoc {ks : List Tri} (h : TinyK ks) {x : Tri} (hx : (0 ≤ x.1 ∧ x.1 ≤ 100) ∧ (0 ≤ x.2.1 ∧ x.2.1 ≤ 100) ∧ (0 ≤ x.2.2 ∧ x.2.2 ≤ 100)) : TinyK (ks ++ [x]) := fun y hy => by
  rcases List.mem_append.1 hy with hy | hy
  · exact h y hy
  · rw [List.mem_singleton.1 hy]; exact hx
theorem OwnK.past {w w' : World} {e : TypeId} {lo r n c : Nat} {A : Option Addr} {ks : List Tri} (h : OwnK w lo e A n c ks) (hr : r < lo) (hg : w.grownBy w' (some r)) : OwnK w' lo e A n c ks :=
  World.ownsRow.kept h hg (by
    cases A with
    | none => exact .inl rfl
    | some a => exact .inr (by have := World.ownsRow.lt h a.block rfl; simp [Value.ownBlock]; omega))
theorem OwnK.mono {w : World} {e : TypeId} {lo lo' n c : Nat} {A : Option Addr} {ks : List Tri} (h : OwnK w lo e A n c ks) (hl : lo' ≤ lo) : OwnK w lo' e A n c ks := by
  refine ⟨h.1, ?_⟩
  rcases h.2 with h' | ⟨g, cap, cur, hv, hb, r⟩
  · exact .inl h'
  · exact .inr ⟨g, cap, cur, hv, by omega, r⟩
theorem Try.infoCableD : (Try.prog.info? 29).map (fun i => (i.zero, i.size, i.bytes)) = some (some (.agg #[.int .i64 0, .int .i64 0, .int .i64 0]), 3, 24) := by kernel_rfl
/-- What is drawn with a source: a number of bridges, and cables. -/
def CabR (q lo r p : Nat) (w w' : World) (e : Ending) : Prop := ∃ (m : Nat) (A' : Option Addr) (n' c' : Nat) (ks : List Tri) (p' : Nat), e = .returned (.tuple #[.int .i64 (m : Int), .slice A' n' c']) ∧ OwnK w' w.heap.size 29 A' n' c' ks ∧ TinyK ks ∧ n' ≤ 21 ∧ m ≤ 9 ∧ p' ≤ p + q ∧ Rd w' lo r p' ∧ w.grownBy w' (some r)
/-- One cable more. -/
theorem OwnK.more {w' : World} {e : TypeId} {lo n cap g : Nat} {ks : List Tri} {x : Tri} (h : w'.ownsRow lo e 3 (.slice (some ⟨g, 0, none⟩) (n + 1) cap) (n + 1) (flatK ks ++ [.int .i64 x.1, .int .i64 x.2.1, .int .i64 x.2.2])) : OwnK w' lo e (some ⟨g, 0, none⟩) (n + 1) cap (ks ++ [x]) := by
  unfold OwnK; rw [flatK_app]; exact h

set_option maxRecDepth 100000 in
set_option maxHeartbeats 16000000 in
theorem l7Cables_any {lo r p : Nat} {w : World} (h : Rd w lo r p) (hp : p ≤ 274877906944) :
    Calls Try.prog 81 #[.pointer (some ⟨r, 0, none⟩)] w fun e w' => CabR 100 lo r p w w' e := by
  obtain ⟨i0, hi, hz0, hz1, hz2⟩ := info_partsK Try.infoCableD
  have hrl := h.lt
  go_enter Try.func81, Try.ntmps81
  go_wp2_with (fail)
  refine (num_any (n := 7) (l := [4, 6, 3, 8, 2, 1, 5]) (h.alloc _) (by omega) (Has.row #[.int .i64 4, .int .i64 6, .int .i64 3, .int .i64 8, .int .i64 2, .int .i64 1, .int .i64 5] rfl rfl (by unfold maxLen; omega)) (fun ad ha => by injection ha with ha; subst ha; simp; omega) (by omega) (by omega)).mono ?_
  rintro e w2 ⟨mz, rfl, hv, R2, G2⟩
  have hpo : 1 ≤ mz ∧ mz ≤ 8 := by simp at hv; omega
  obtain ⟨m, rfl⟩ := Int.eq_ofNat_of_zero_le (show 0 ≤ mz by omega)
  clear hv
  have G2' := gr_alloc G2
  have s2 := G2'.size
  have hr2 := R2.lt
  clear G2
  have O3 : OwnK (w2.alloc (.cells #[] 29)) w.heap.size 29 (some ⟨w2.heap.size, 0, none⟩) 0 0 [] := World.ownsRow_lit w2 #[] 0 s2 (by unfold maxLen; omega) rfl
  have R3 := R2.alloc (.cells #[] 29)
  have G3 := gr_bel G2' ((Below.refl _ _).alloc (Nat.le_refl _) (.cells #[] 29))
  go_wp2_with (fail)
  refine (num_any (n := 6) (l := [5, 8, 12, 3, 0, 20]) (R3.alloc _) (by omega) (Has.rowAt #[.int .i64 5, .int .i64 8, .int .i64 12, .int .i64 3, .int .i64 0, .int .i64 20] rfl rfl (by decide) _ (by simp)) (fun ad ha => by injection ha with ha; subst ha; simp; omega) (by omega) (by omega)).mono ?_
  rintro e w4 ⟨v, rfl, hv, R4, G4⟩
  have hvb : 0 ≤ v ∧ v ≤ 20 := by simp at hv; omega
  obtain ⟨k0, rfl⟩ := Int.eq_ofNat_of_zero_le hvb.1
  have hk0 : k0 ≤ 20 := by omega
  clear hv hvb
  have G4' := gr_alloc G4
  have O4 : OwnK w4 w.heap.size 29 (some ⟨w2.heap.size, 0, none⟩) 0 0 [] := World.ownsRow.kept O3 G4' (.inr (by simp [Value.ownBlock]; omega))
  have G14 := gr_trans G3 G4'
  have s4 := G14.size
  clear O3 R3 G3 G4 G4' G2'
  go_wp2
  go_loopw [5, 6] (fun v i wr => ∃ (k : Nat) (A' : Option Addr) (q c' : Nat) (ks : List Tri) (p' : Nat), k + q ≤ 20 ∧ i = .int .i64 (k : Int) ∧ v = .slice A' q c' ∧ OwnK wr w.heap.size 29 A' q c' ks ∧ TinyK ks ∧ p' ≤ p + 2 + 3 * q ∧ Rd wr lo r p' ∧ w.grownBy wr (some r)) (fun _ i _ => (intOf i).toNat)
  case atStart => exact ⟨k0, _, 0, _, [], p + 1 + 1, by omega, rfl, rfl, O4, tinyK_nil, by omega, R4, G14⟩
  case round =>
    obtain ⟨k, A5, q5, c5, ks, p5, hkm, rfl, rfl, O5, T5, hp5, R5, G5⟩ := hrel
    have s5 := G5.size
    by_cases hk : 0 < k
    · have hkB : decide ((k : Int) > 0) = true := by simp; omega
      have hkC : decide (0 < (k : Int)) = true := by simp; omega
      by_cases hm1 : 1 < m
      · have hmB : decide ((m : Int) > 1) = true := by simp; omega
        have hmC : decide (1 < (m : Int)) = true := by simp; omega
        go_wp2_with (fail)
        refine (pick_any R5 (by omega) (by omega)).mono ?_
        rintro e w6 ⟨a, rfl, ha, R6, G6⟩
        have hab : 0 ≤ a ∧ a ≤ 7 := by unfold Picked at ha; omega
        have O6 := O5.past hrl G6
        have G16 := gr_trans G5 G6
        clear ha
        obtain ⟨D, hD⟩ : ∃ D, w6.drew = D := ⟨_, rfl⟩
        have BD : Below w6.heap.size w6 D := hD ▸ below_drewN _ 1
        have RD := R6.bel BD
        have OD := O6.bel BD
        have GD := gr_bel G16 BD
        have RL := RD.alloc (.cells #[.int .i64 1, .int .i64 1, .int .i64 2, .int .i64 5, .int .i64 10, .int .i64 99] 3)
        have OL := OD.bel ((Below.refl _ _).alloc (Nat.le_refl _) (.cells #[.int .i64 1, .int .i64 1, .int .i64 2, .int .i64 5, .int .i64 10, .int .i64 99] 3))
        have GL := gr_bel GD ((Below.refl _ _).alloc (Nat.le_refl _) (.cells #[.int .i64 1, .int .i64 1, .int .i64 2, .int .i64 5, .int .i64 10, .int .i64 99] 3))
        have HL : Has (D.alloc (.cells #[.int .i64 1, .int .i64 1, .int .i64 2, .int .i64 5, .int .i64 10, .int .i64 99] 3)) (some ⟨D.heap.size, 0, none⟩) 6 (ints .i64 [1, 1, 2, 5, 10, 99]) := Has.row #[.int .i64 1, .int .i64 1, .int .i64 2, .int .i64 5, .int .i64 10, .int .i64 99] rfl rfl (by unfold maxLen; omega)
        have hDr : r < D.heap.size := RD.lt
        have HP := Lib.hid (show p5 + 1 ≤ 1099511627776 by omega)
        have HP2 := Lib.hid (show p5 + 1 + 1 ≤ 1099511627776 by omega)
        have HM := Lib.hid (show -9223372036854775808 ≤ (m : Int) - 1 ∧ (m : Int) - 1 ≤ 9223372036854775807 by omega)
        have HC6 := Lib.hid (show q5 + 1 ≤ maxLen by unfold maxLen; omega)
        have HC7 := Lib.hid (show (q5 + 1) * 24 ≤ 140737488355328 by omega)
        have HPK : Hid (∀ v, Picked ((m : Int) - 1) v → IntKind.i64.wrap (a + 1 + v) = a + 1 + v ∧ ∃ bn : Int, (a + 1 + v).tmod (m : Int) = bn ∧ 0 ≤ bn ∧ bn ≤ 100) := fun v hv => by
          unfold Picked at hv
          refine ⟨IntWalk.i64_in _ (by omega), _, rfl, ?_⟩
          rw [Int.tmod_eq_emod_of_nonneg (by omega)]
          exact ⟨Int.emod_nonneg _ (by omega), by have := Int.emod_lt_of_pos (a + 1 + v) (show (0 : Int) < (m : Int) by omega); omega⟩
        have HX1 := Lib.hid (show IntKind.i64.wrap (a + 1) = a + 1 from IntWalk.i64_in _ (by omega))
        have HX2 := Lib.hid (show IntKind.i64.wrap ((m : Int) - 1) = (m : Int) - 1 from IntWalk.i64_in _ (by omega))
        have HA100 := Lib.hid (show a ≤ 100 by omega)
        have HLO := Lib.hid (show lo ≤ w.heap.size by have := h.1; omega)
        have HML := Lib.hid (show 6 ≤ maxLen by unfold maxLen; omega)
        have H60 := Lib.hid (show 0 < 6 by omega)
        have H61 := Lib.hid (show 6 ≤ 1000000 by omega)
        have HVB : Hid (∀ v : Int, v ∈ ([1, 1, 2, 5, 10, 99] : List Int) → 0 ≤ v ∧ v ≤ 100) := fun v hv => by simp at hv; omega
        have hmn : ¬ m = 0 := by omega
        clear R6 O6 G6 G16 O5 R5 G5
        go_wp2
        have HW1 := HX1.out
        have HW2 := HX2.out
        go_region_law (first | ((with_reducible refine step_append_lies _ rfl (.tmp 26) (.tmp 41) 23 rfl w.heap.size 29 i0 (.agg #[.int .i64 0, .int .i64 0, .int .i64 0]) 3 24 Try.underlying23 hi hz0 hz1 hz2 ?c1 ?c2 (.slice A5 q5 c5) q5 (flatK ks) rfl O9 ⟨w8.heap.size, 0, none⟩ 1 1 (#[Value.int .i64 a, Value.int .i64 bn, Value.int .i64 v8] : Array Value).toList rfl ?c3 N9.out ?c4 ?c5 ?c6 ?c7 Z9 _ rfl ?_); (case c1 => rfl); (case c2 => decide); (case c3 => rfl); (case c4 => simp [Value.oneCell']); (case c5 => decide); (case c6 => exact HC6.out); (case c7 => exact HC7.out); intro g9 c9 w9 P9 G9 _ _) | (go_simp; go_at_call 58; (first | (refine (pick_any RD HP.out HM.out).mono ?_; rintro e w7 ⟨v7, rfl, hv7, R7, G7⟩; obtain ⟨HW3, bn, HW4, hbn⟩ := HPK.out v7 hv7; have O7 := OD.past hrl G7; have G17 := gr_trans GD G7; have HH7 : Has (w7.alloc (.cells #[.int .i64 1, .int .i64 1, .int .i64 2, .int .i64 5, .int .i64 10, .int .i64 99] 3)) (some ⟨w7.heap.size, 0, none⟩) 6 (ints .i64 [1, 1, 2, 5, 10, 99]) := Has.row #[.int .i64 1, .int .i64 1, .int .i64 2, .int .i64 5, .int .i64 10, .int .i64 99] rfl rfl HML.out; have RR := R7.alloc (.cells #[.int .i64 1, .int .i64 1, .int .i64 2, .int .i64 5, .int .i64 10, .int .i64 99] 3); have B7 := (Below.refl w7.heap.size w7).alloc (Nat.le_refl _) (.cells #[.int .i64 1, .int .i64 1, .int .i64 2, .int .i64 5, .int .i64 10, .int .i64 99] 3); have OO := O7.bel B7; have GG := gr_bel G17 B7; have HNE : ∀ ad : Addr, (some ⟨w7.heap.size, 0, none⟩ : Option Addr) = some ad → ad.block ≠ r := fun ad had => by cases had; exact Nat.ne_of_gt R7.lt) | (refine (pick_any RL HP.out HM.out).mono ?_; rintro e w7 ⟨v7, rfl, hv7, R7, G7⟩; obtain ⟨HW3, bn, HW4, hbn⟩ := HPK.out v7 hv7; have O7 := OL.past hrl G7; have G17 := gr_trans GL G7; have HH7 : Has w7 (some ⟨D.heap.size, 0, none⟩) 6 (ints .i64 [1, 1, 2, 5, 10, 99]) := HL.grown G7 (fun ad had e => by cases had; cases e; exact Nat.lt_irrefl _ hDr); have RR := R7; have OO := O7; have GG := G17; have HNE : ∀ ad : Addr, (some ⟨D.heap.size, 0, none⟩ : Option Addr) = some ad → ad.block ≠ r := fun ad had => by cases had; exact Nat.ne_of_gt hDr))) | (go_simp; go_at_call 70; refine (num_any RR HP2.out HH7 HNE H60.out H61.out).mono ?_; rintro e w8 ⟨v8, rfl, hv8, R8, G8⟩; have O8 := OO.past hrl G8; have G18 := gr_trans GG G8; have HV := HVB.out v8 hv8; have B9 := (Below.refl w8.heap.size w8).alloc (Nat.le_refl _) (.cells #[.int .i64 a, .int .i64 bn, .int .i64 v8] 29); have O9 : (w8.alloc (.cells #[.int .i64 a, .int .i64 bn, .int .i64 v8] 29)).ownsRow w.heap.size 29 3 (.slice A5 q5 c5) q5 (flatK ks) := World.ownsRow.alloc O8 _; have N9 := Lib.hid (World.news_of_block (w := w8.alloc (.cells #[.int .i64 a, .int .i64 bn, .int .i64 v8] 29)) (B := w8.heap.size) (cs := #[.int .i64 a, .int .i64 bn, .int .i64 v8]) (t := 29) (fr := (0, 0)) (heap_alloc_new w8 _)); have Z9 : w.heap.size ≤ (w8.alloc (.cells #[.int .i64 a, .int .i64 bn, .int .i64 v8] 29)).heap.size := Nat.le_trans G18.size B9.size))
        all_goals
          have P10 := OwnK.more (x := (a, bn, v8)) P9
          have T10 := T5.snoc (x := (a, bn, v8)) ⟨⟨hab.1, HA100.out⟩, hbn, HV⟩
          have hb10 : ∀ x, (Value.slice A5 q5 c5).ownBlock = some x → w.heap.size ≤ x := fun x hx => (World.ownsRow.lt O8 x hx).1
          have R9 := (R8.bel B9).grown G9 (fun x hx => ⟨Nat.le_trans HLO.out (hb10 x hx), Nat.ne_of_gt (Nat.lt_of_lt_of_le hrl (hb10 x hx))⟩)
          have G19 := gr_new (gr_bel G18 B9) G9 hb10
          clear HW1 HW2 HW3 HW4 O9 N9 P9 G9 O8 G8 G18 R8 B9 OO GG RR HH7 O7 G17 R7 G7
          go_wp2
          go_roundw
          case rel => exact ⟨k - 1, _, q5 + 1, _, ks ++ [(a, bn, v8)], p5 + 1 + 1 + 1, by omega, by go_num, rfl, P10, T10, by omega, R9, G19⟩
          case measure => simp [intOf]; omega
      · have hmB : decide ((m : Int) > 1) = false := by simp; omega
        have hmC : decide (1 < (m : Int)) = false := by simp; omega
        go_wp2
        go_ret2
        exact ⟨m, _, _, _, ks, _, rfl, O5, T5, by omega, by omega, by omega, R5, G5⟩
    · have hkB : decide ((k : Int) > 0) = false := by simp; omega
      have hkC : decide (0 < (k : Int)) = false := by simp; omega
      go_wp2
      go_ret2
      exact ⟨m, _, _, _, ks, _, rfl, O5, T5, by omega, by omega, by omega, R5, G5⟩
end Go.Proofs.Ytkmdpmhaljieaaa
