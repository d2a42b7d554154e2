/-
  Chapter 8's program, the machine that reads levels, step by step: what is proved here is what it leaves in memory, and that nothing else that was there is written. Condition: at most 2^36 bits.
-/
import Derived.Test.YtbeebaiionlcoaaImp8a
import Derived.BigRegion
import Derived.BigQuiet
namespace Go.Proofs.Ytbeebaiionlcoaa
open Go.RowKit

theorem own_cells {W : World} {lo n c : Nat} {A : Option Addr} {e : TypeId} {xs : List Value} (h : Own W lo e A n c xs) : ∀ (j : Nat) (o : Obj), A.map (·.block) = some j → W.heap[j]? = some o → o.isCells = true := by
  intro j o hj ho
  cases A with
  | none => cases hj
  | some a =>
    have e2 : a.block = j := by simpa using hj
    rcases h.2 with ⟨hv, _⟩ | ⟨g, cap, cur, hv, _, hgb, _⟩
    · cases hv
    · injection hv with hA _ _
      injection hA with hA
      subst hA
      have : g = j := e2
      subst this
      rw [ho] at hgb
      injection hgb with hgb
      subst hgb
      rfl
/-- What a step leaves. -/
def Leaves (lo B : Nat) (q : Int × List Int) (w w' : World) (e : Ending) : Prop := (∃ v, e = .returned v) ∧ RD w' lo B q ∧ But lo B w w' ∧ KeepsOthers w w'

set_option maxHeartbeats 4000000 in
theorem readerEnd_any {w : World} {lo B : Nat} {q : Int × List Int} {bit : Int} (h : RD w lo B q) (hl : lo ≤ w.heap.size) (hlen : q.2.length ≤ 68719476736) :
    Calls Try.prog 57 #[.pointer (some ⟨B, 0, none⟩), .int .i64 bit] w fun e w' => Leaves lo B (0, q.2 ++ [bit]) w w' e := by
  obtain ⟨i0, hi, hz0, hz1, hz2⟩ := info_parts Try.infoInt
  obtain ⟨A, n, c, h1, h2⟩ := h
  obtain ⟨c0, c1, f0, f1, hBl⟩ := rd_cells h1
  have hnl : q.2.length = n := h2.has.len
  have hne := own_not h2 h1 (by decide)
  have hoc := own_cells h2
  go_enter Try.func57, Try.ntmps57
  go_wp2_with (at_builtin; refine wpList_apps _ rfl (.tmp 8) (.tmp 10) 23 rfl lo 3 i0 (.int .i64 0) 8 Try.underlying23 hi hz0 hz1 hz2 rfl A n c _ rfl h2 1 1 #[.int .i64 bit] rfl rfl (by simp [Value.oneCell']) (by decide) (by omega) (by decide) hl ?_; intro g c3 w3 O3 G3 B3 E3; have hB3 := (G3.block B hBl (fun e => hne e.symm)).trans h1; obtain ⟨d0, d1, e0, e1, hBl3⟩ := rd_cells hB3; have hB4 := (heap_setCell_same w3 B 1 _ _ (.slice (some ⟨g, 0, none⟩) (n + 1) c3) hB3).trans rfl; obtain ⟨d2, d3, e2, e3, hBl4⟩ := rd_cells hB4)
  refine bodyPost_end (results_none rfl _ _ _) rfl ?_
  have hB5 := (heap_setCell_same _ B 0 _ _ (.int .i64 0) hB4).trans rfl
  have O4 := O3.grown (grown_set (World.grownBy.refl w3 (some B)) 1 (.slice (some ⟨g, 0, none⟩) (n + 1) c3)) (fun a ha e => own_not O3 hB3 (by decide) (by rw [ha]; exact e))
  have O5 := O4.grown (grown_set (World.grownBy.refl _ (some B)) 0 (.int .i64 0)) (fun a ha e => own_not O4 hB4 (by decide) (by rw [ha]; exact e))
  exact ⟨⟨_, rfl⟩, ⟨_, _, _, hB5, by rw [ints_app]; exact O5⟩, ((But.of_below B3).setCell 1 _).setCell 0 _, ((KeepsOthers.of_grownBy G3 hoc).trans (KeepsOthers.setCell _ _ _)).trans (KeepsOthers.setCell _ _ _)⟩

set_option maxHeartbeats 8000000 in
theorem readerStep_any {w : World} {lo B : Nat} {q : Int × List Int} {x : Int} (h : RD w lo B q) (hl : lo ≤ w.heap.size) (hlen : q.2.length ≤ 68719476736) :
    Calls Try.prog 55 #[.pointer (some ⟨B, 0, none⟩), .int .i64 x] w fun e w' => Leaves lo B (stepM q x) w w' e := by
  have HD := Lib.hid h
  obtain ⟨A, n, c, h1, _⟩ := h
  obtain ⟨c0, c1, f0, f1, hBl⟩ := rd_cells h1
  obtain ⟨s, bs⟩ := q
  dsimp only at c0 c1 hlen h1
  have st : ∀ s' : Int, Hid (Leaves lo B (s', bs) w (w.setCell ⟨B, 0, none⟩ (.int .i64 s')) (.returned (.tuple #[]))) := fun s' => ⟨⟨_, rfl⟩, HD.out.state s', (But.refl _ _ _).setCell 0 _, KeepsOthers.setCell _ _ _⟩
  have HS := Lib.hid st
  have EN : ∀ bit : Int, Hid (Calls Try.prog 57 #[.pointer (some ⟨B, 0, none⟩), .int .i64 bit] w fun e w' => Leaves lo B (0, bs ++ [bit]) w w' e) := fun bit => readerEnd_any HD.out hl hlen
  have HE := Lib.hid EN
  obtain ⟨r, hr⟩ : ∃ r, stepM (s, bs) x = r := ⟨_, rfl⟩
  rw [hr]
  clear h1 st EN hlen
  by_cases s0 : s = 0
  · subst s0
    by_cases x0 : x = 0
    · subst x0
      obtain rfl : (1, bs) = r := by rw [← hr]; simp [stepM]; try omega
      clear hr
      go_enter Try.func55, Try.ntmps55
      go_wp2
      refine bodyPost_end (results_none rfl _ _ _) rfl ?_
      exact (HS.out 1).out
    · have x0B : (x == 0) = false := by simp [x0]
      by_cases x1 : x = 1
      · subst x1
        obtain rfl : (2, bs) = r := by rw [← hr]; simp [stepM]; try omega
        clear hr
        go_enter Try.func55, Try.ntmps55
        go_wp2
        refine bodyPost_end (results_none rfl _ _ _) rfl ?_
        exact (HS.out 2).out
      · have x1B : (x == 1) = false := by simp [x1]
        obtain rfl : (3, bs) = r := by rw [← hr]; simp [stepM, x0, x1]
        clear hr x0 x1
        go_enter Try.func55, Try.ntmps55
        go_wp2
        refine bodyPost_end (results_none rfl _ _ _) rfl ?_
        exact (HS.out 3).out
  · have s0B : (s == 0) = false := by simp [s0]
    by_cases s1 : s = 1
    · subst s1
      by_cases x1 : x = 1
      · subst x1
        obtain rfl : (0, bs ++ [0]) = r := by rw [← hr]; simp [stepM]; try omega
        clear hr
        go_enter Try.func55, Try.ntmps55
        go_wp2_with (fail)
        refine (HE.out 0).out.mono ?_
        rintro e w2 ⟨⟨v, rfl⟩, q1, q2, q3⟩
        go_wp2
        refine bodyPost_end (results_none rfl _ _ _) rfl ?_
        exact ⟨⟨_, rfl⟩, q1, q2, q3⟩
      · have x1B : (x == 1) = false := by simp [x1]
        obtain rfl : (3, bs) = r := by rw [← hr]; simp [stepM, x1]
        clear hr x1 s0
        go_enter Try.func55, Try.ntmps55
        go_wp2
        refine bodyPost_end (results_none rfl _ _ _) rfl ?_
        exact (HS.out 3).out
    · have s1B : (s == 1) = false := by simp [s1]
      by_cases s2 : s = 2
      · subst s2
        by_cases x0 : x = 0
        · subst x0
          obtain rfl : (0, bs ++ [1]) = r := by rw [← hr]; simp [stepM]; try omega
          clear hr
          go_enter Try.func55, Try.ntmps55
          go_wp2_with (fail)
          refine (HE.out 1).out.mono ?_
          rintro e w2 ⟨⟨v, rfl⟩, q1, q2, q3⟩
          go_wp2
          refine bodyPost_end (results_none rfl _ _ _) rfl ?_
          exact ⟨⟨_, rfl⟩, q1, q2, q3⟩
        · have x0B : (x == 0) = false := by simp [x0]
          obtain rfl : (3, bs) = r := by rw [← hr]; simp [stepM, x0]
          clear hr x0 s0 s1
          go_enter Try.func55, Try.ntmps55
          go_wp2
          refine bodyPost_end (results_none rfl _ _ _) rfl ?_
          exact (HS.out 3).out
      · have s2B : (s == 2) = false := by simp [s2]
        obtain rfl : (3, bs) = r := by rw [← hr]; simp [stepM, s0, s1, s2]
        clear hr s0 s1 s2
        go_enter Try.func55, Try.ntmps55
        go_wp2
        refine bodyPost_end (results_none rfl _ _ _) rfl ?_
        exact (HS.out 3).out

set_option maxHeartbeats 2000000 in
theorem readerFeed_any {w : World} {lo B : Nat} {q : Int × List Int} {x : Int} {m : Nat} (h : RD w lo B q) (hl : lo ≤ w.heap.size) (hlen : q.2.length + m ≤ 68719476736) :
    Calls Try.prog 44 #[.pointer (some ⟨B, 0, none⟩), .int .i64 x, .int .i64 (m : Int)] w fun e w' => Leaves lo B (feedM q x m) w w' e := by
  go_enter Try.func44, Try.ntmps44
  go_wp2
  go_loopw [7] (fun t wr => ∃ k : Nat, k ≤ m ∧ t = .int .i64 (k : Int) ∧ RD wr lo B (feedM q x k) ∧ But lo B w wr ∧ KeepsOthers w wr) (fun t _ => m - (intOf t).toNat)
  case atStart => exact ⟨0, Nat.zero_le _, rfl, h, But.refl _ _ _, KeepsOthers.refl _⟩
  case round =>
    obtain ⟨k, hk, rfl, hD, hB, hK⟩ := hrel
    by_cases hlt : k < m
    · have hltB : decide ((k : Int) < (m : Int)) = true := by simp; omega
      have hlk := feedM_len q x k
      have hs := hB.size
      go_wp2_with (fail)
      refine (readerStep_any hD (by omega) (by omega)).mono ?_
      rintro e w2 ⟨⟨v, rfl⟩, q1, q2, q3⟩
      go_wp2
      go_roundw
      case rel => exact ⟨k + 1, by omega, by go_num, q1, hB.trans q2, hK.trans q3⟩
      case measure => simp [intOf]; omega
    · have hltB : decide ((k : Int) < (m : Int)) = false := by simp; omega
      obtain rfl : k = m := by omega
      go_wp2
      refine bodyPost_end (results_none rfl _ _ _) rfl ?_
      exact ⟨⟨_, rfl⟩, hD, hB, hK⟩
end Go.Proofs.Ytbeebaiionlcoaa
