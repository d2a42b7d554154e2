/-
  The laws' own words for frames: what is proved here is how frames that came in are read, copied, compared and marked. Condition: lengths up to 2^24.
-/
import Derived.Test.YtimddobedgopiaaDrawHops
import Derived.Deep.Slices
import Derived.Deep.Strs
import Derived.Deep.Fields
import Derived.Lib.SmallJoins
namespace Go.Proofs.Ytimddobedgopiaa
open Go.RowKit

open Go.ChangeShapes Go.WideShapes Go.ChangeAt Go.Deep in
/-- Frames that came in. -/
theorem hasH_of_trod {H : Type} {enc : TypeId × Value → H} {P : Program} {W : World} {base : Nat} {spare : Nat → Bool} {held : Bool} {t e : TypeId} {f0 f1 f2 : Field} {A : Option Addr} {n c : Nat} {d : DataW H} {p : List MemPlace}
    (ht : P.underlying t = some (.slice e)) (he : P.underlying e = some (.struct #[f0, f1, f2])) (hC : P.cellsOf e = 3) (hone : oneCellFields P #[f0, f1, f2] = true)
    (h0 : P.underlying f0.type = some (.int .i64)) (h1 : P.underlying f1.type = some (.int .i64)) (h2 : P.underlying f2.type = some (.int .i64)) (h : DataW.Trod enc P W base spare held t (.slice A n c) d p) :
    ∃ hs, HasH W A n hs ∧ I64H hs ∧ n ≤ c ∧ c ≤ maxLen := by
  obtain ⟨fuel, hf⟩ := h
  obtain ⟨o0, k0⟩ := hone_of hone 0 f0 rfl
  obtain ⟨o1, k1⟩ := hone_of hone 1 f1 rfl
  obtain ⟨o2, k2⟩ := hone_of hone 2 f2 rfl
  rcases open_slice ht hf with ⟨hcs, _⟩ | ⟨x, l, c', m, n', D, Pl, hcs, _, hl, hm, hmm, _, hi⟩
  · simp [Value.cells] at hcs
    obtain ⟨rfl, rfl, rfl⟩ := hcs
    exact ⟨[], ⟨rfl, fun i hi => absurd hi (by omega)⟩, (fun h hh => by cases hh), by simp, by simp⟩
  · simp [Value.cells] at hcs
    obtain ⟨rfl, rfl, rfl⟩ := hcs
    have hnm : n ≤ m := by rw [hmm]; split <;> omega
    have key : ∀ i, i < n → ∃ a b z : Int, W.cell? (x.add (i * 3 + 0)) = some (.int .i64 a) ∧ W.cell? (x.add (i * 3 + 1)) = some (.int .i64 b) ∧ W.cell? (x.add (i * 3 + 2)) = some (.int .i64 z) ∧ (Lit.int .i64 a).wf = true ∧ (Lit.int .i64 b).wf = true ∧ (Lit.int .i64 z).wf = true := fun i hin => by
      obtain ⟨cs', hc, ht'⟩ := hi i (by omega)
      rw [hC] at hc
      obtain ⟨_, hcl, hat⟩ := World.cells?_some hc
      obtain ⟨y0, y1, y2, q, _, _, t0, t1, t2⟩ := trod_struct3 he ht'
      rw [o0, k0] at t0
      rw [o1, k1] at t1
      rw [o2, k2] at t2
      obtain ⟨a, ea, _, wa⟩ := DataW.trod_int h0 t0
      obtain ⟨b, eb, _, wb⟩ := DataW.trod_int h1 t1
      obtain ⟨z, ez, _, wz⟩ := DataW.trod_int h2 t2
      have g : ∀ j v, (cs'.drop j).take 1 = [v] → cs'[j]? = some v := fun j v e => by
        have h3 : ((cs'.drop j).take 1)[0]? = some v := by rw [e]; rfl
        simpa using h3
      refine ⟨a, b, z, ?_, ?_, ?_, wa, wb, wz⟩
      · rw [← Go.Deep.add_add, hat 0 (by omega)]; exact g 0 _ ea
      · rw [← Go.Deep.add_add, hat 1 (by omega)]; exact g 1 _ eb
      · rw [← Go.Deep.add_add, hat 2 (by omega)]; exact g 2 _ ez
    have key2 : ∀ i : Nat, ∃ h3 : Hop3, i < n → W.cell? (x.add (i * 3 + 0)) = some (.int .i64 h3.1) ∧ W.cell? (x.add (i * 3 + 1)) = some (.int .i64 h3.2.1) ∧ W.cell? (x.add (i * 3 + 2)) = some (.int .i64 h3.2.2) ∧ (Lit.int .i64 h3.1).wf = true ∧ (Lit.int .i64 h3.2.1).wf = true ∧ (Lit.int .i64 h3.2.2).wf = true := fun i => by
      by_cases hin : i < n
      · obtain ⟨a, b, z, r⟩ := key i hin
        exact ⟨(a, b, z), fun _ => r⟩
      · exact ⟨(0, 0, 0), fun hh => absurd hh hin⟩
    obtain ⟨F, hF⟩ := Classical.axiomOfChoice key2
    refine ⟨(List.range n).map F, ⟨by simp, fun i hin => ?_⟩, fun h3 hh => ?_, hl, hm⟩
    · obtain ⟨c0, c1, c2, _⟩ := hF i hin
      obtain ⟨b, off, spot⟩ := x
      have hspot : spot = none := by
        have c00 := (hF 0 (by omega)).1
        simpa [Addr.add] using World.cell?_spot c00
      subst hspot
      have hadd : ∀ k, (⟨b, off, none⟩ : Addr).add k = ⟨b, off + k, none⟩ := fun k => by unfold Addr.add; split <;> simp_all
      rw [hadd] at c0 c1 c2
      exact ⟨b, off, F i, rfl, by simp [hin], by simpa using c0, by rw [show off + i * 3 + 1 = off + (i * 3 + 1) by omega]; exact c1, by rw [show off + i * 3 + 2 = off + (i * 3 + 2) by omega]; exact c2⟩
    · simp only [List.mem_map, List.mem_range] at hh
      obtain ⟨i, hin, rfl⟩ := hh
      obtain ⟨_, _, _, w0, w1, w2⟩ := hF i hin
      exact ⟨i64_of_wf w0, i64_of_wf w1, i64_of_wf w2⟩

set_option maxHeartbeats 1000000 in
theorem toHop_any (f t q : Int) (w : World) : Calls Try.prog 65 #[.agg #[.int .i64 f, .int .i64 t, .int .i64 q]] w fun e w' => e = .returned (.agg #[.int .i64 f, .int .i64 t, .int .i64 q]) ∧ Below w.heap.size w w' := by
  go_enter Try.func65, Try.ntmps65
  go_wp2
  have hF : (((w.alloc (.cells #[.int .i64 f, .int .i64 t, .int .i64 q] 81)).alloc (.cells #[.int .i64 f, .int .i64 t, .int .i64 q] 46)).alloc (.cells #[.int .i64 f, .int .i64 t, .int .i64 q] 46)).heap[w.heap.size + 1]? = some (.cells #[.int .i64 f, .int .i64 t, .int .i64 q] 46 (0, 0)) := by
    rw [heap_alloc_old _ _ (by simp)]
    have := heap_alloc_new (w.alloc (.cells #[.int .i64 f, .int .i64 t, .int .i64 q] 81)) (.cells #[.int .i64 f, .int .i64 t, .int .i64 q] 46)
    simpa using this
  refine bodyPost_ret (results_cell_row rfl _ _ _ _ _ _ _ rfl hF Try.underlying46 rfl (by kernel_rfl)) rfl ?_
  exact ⟨rfl, ((((Below.refl _ _).alloc (Nat.le_refl _) _).alloc (by simp) _).alloc (by simp; omega) _)⟩
theorem szHopS_any {A : Option Addr} {n c : Nat} {w : World} {L : Int} (hL : L = 1048576) (hn : n ≤ 9223372036854775807) :
    Calls Try.prog 41 #[.slice A n c, .int .i64 L] w fun e w' => e = .returned (.int .i64 (if n ≤ 1048576 then 1048576 - (n : Int) else -1)) ∧ w = w' := by
  subst hL
  by_cases h : n ≤ 1048576
  · have hB : decide ((1048576 : Int) - (n : Int) < 0) = false := by simp; omega
    rw [if_pos h]
    clear h
    go_enter Try.func41, Try.ntmps41
    go_wp2
    go_ret
    exact ⟨rfl, rfl⟩
  · have hB : decide ((1048576 : Int) - (n : Int) < 0) = true := by simp; omega
    rw [if_neg h]
    clear h
    go_enter Try.func41, Try.ntmps41
    go_wp2
    go_ret
    exact ⟨rfl, rfl⟩
theorem flat3_set (hs : List Hop3) (i : Nat) (h : Hop3) : flat3 (hs.set i h) = (((flat3 hs).set (i * 3) (.int .i64 h.1)).set (i * 3 + 1) (.int .i64 h.2.1)).set (i * 3 + 2) (.int .i64 h.2.2) := by
  induction hs generalizing i with
  | nil => rfl
  | cons e ds ih =>
    cases i with
    | zero => simp [flat3]
    | succ i =>
      have e1 : (i + 1) * 3 = i * 3 + 1 + 1 + 1 := by omega
      rw [e1]
      simp [flat3, ih]
theorem flat3_zeros (n : Nat) : flat3 (List.replicate n (0, 0, 0)) = List.replicate (n * 3) (.int .i64 0) := by
  induction n with
  | zero => rfl
  | succ n ih =>
    rw [List.replicate_succ, flat3, ih, show (n + 1) * 3 = n * 3 + 1 + 1 + 1 by omega, List.replicate_succ, List.replicate_succ, List.replicate_succ]
theorem made_zeros (n : Nat) : (madeCells (Value.cells (.agg #[.int .i64 0, .int .i64 0, .int .i64 0])) (n * 3)).toList = flat3 (List.replicate n (0, 0, 0)) := by
  rw [flat3_zeros]
  apply List.ext_getElem?
  intro j
  by_cases hj : j < n * 3
  · have h3 : j % 3 = 0 ∨ j % 3 = 1 ∨ j % 3 = 2 := by omega
    rcases h3 with h3 | h3 | h3 <;> simp [madeCells, hj, h3, Value.cells]
  · simp [madeCells, hj]
/-- One frame stored. -/
theorem OwnH.put {w : World} {lo n c g : Nat} {hs : List Hop3} (h : OwnH w lo (some ⟨g, 0, none⟩) n c hs) (i : Nat) (x : Hop3) :
    OwnH (((w.setCell ⟨g, i * 3, none⟩ (.int .i64 x.1)).setCell ⟨g, i * 3 + 1, none⟩ (.int .i64 x.2.1)).setCell ⟨g, i * 3 + 2, none⟩ (.int .i64 x.2.2)) lo (some ⟨g, 0, none⟩) n c (hs.set i x) ∧
    w.grownBy (((w.setCell ⟨g, i * 3, none⟩ (.int .i64 x.1)).setCell ⟨g, i * 3 + 1, none⟩ (.int .i64 x.2.1)).setCell ⟨g, i * 3 + 2, none⟩ (.int .i64 x.2.2)) (some g) := by
  obtain ⟨q1, r1⟩ := World.ownsRow.stored h (i * 3) (.int .i64 x.1)
  obtain ⟨q2, r2⟩ := World.ownsRow.stored q1 (i * 3 + 1) (.int .i64 x.2.1)
  obtain ⟨q3, r3⟩ := World.ownsRow.stored q2 (i * 3 + 2) (.int .i64 x.2.2)
  refine ⟨?_, gr_trans (gr_trans r1 r2) r3⟩
  unfold OwnH
  rw [flat3_set]
  exact q3
theorem OwnH.cells {w : World} {lo n c g i : Nat} {hs : List Hop3} (h : OwnH w lo (some ⟨g, 0, none⟩) n c hs) (hi : i < n) :
    ∃ x : Hop3, w.cell? ⟨g, i * 3, none⟩ = some (.int .i64 x.1) ∧ w.cell? ⟨g, i * 3 + 1, none⟩ = some (.int .i64 x.2.1) ∧ w.cell? ⟨g, i * 3 + 2, none⟩ = some (.int .i64 x.2.2) := by
  have hl : hs.length = n := by have := h.1; rw [flat3_len] at this; omega
  obtain ⟨e0, e1, e2⟩ := flat3_at hs i _ (List.getElem?_eq_getElem (by omega))
  exact ⟨_, (World.ownsRow.cellAt h _ (by omega)).trans e0, (World.ownsRow.cellAt h _ (by omega)).trans e1, (World.ownsRow.cellAt h _ (by omega)).trans e2⟩

set_option maxHeartbeats 2000000 in
theorem toHopS_any {A : Option Addr} {n c : Nat} {hs : List Hop3} {w : World} (h : HasH w A n hs) (hn : n ≤ 16777216) :
    Calls Try.prog 42 #[.slice A n c] w fun e w' => ∃ A' c', e = .returned (.slice A' n c') ∧ OwnH w' w.heap.size A' n c' hs ∧ Below w.heap.size w w' := by
  obtain ⟨i0, hi, hz0, hz1, hz2⟩ := info_parts3 Try.infoHop
  have HLN := Lib.hid h.1
  go_enter Try.func42, Try.ntmps42
  go_wp2_with (at_make; refine wpList_make_full _ rfl _ _ 39 rfl w.heap.size 46 i0 (.agg #[.int .i64 0, .int .i64 0, .int .i64 0]) 3 Try.underlying39 hi hz0 hz1 .i64 .i64 _ _ n rfl rfl (by omega) (by omega) (by rw [hz2]; omega) (by unfold maxLen; omega) (Nat.le_refl _) ?_; intro w1 hown hgrow)
  rw [made_zeros] at hown
  have O1 : OwnH w1 w.heap.size (some ⟨w.heap.size, 0, none⟩) n n (List.replicate n (0, 0, 0)) := hown
  have B1 : Below w.heap.size w w1 := below_of_grown hgrow (Nat.le_refl _) (fun k hk => by cases hk)
  have s1 : w.heap.size < w1.heap.size := by
    by_cases h0 : 0 < n
    · have := World.ownsRow.lt O1 w.heap.size rfl; omega
    · have := World.ownsRow.lt O1 w.heap.size rfl; omega
  clear hown hgrow
  go_loopw [4] (fun t wr => ∃ k : Nat, k ≤ n ∧ t = .int .i64 (k : Int) ∧ OwnH wr w.heap.size (some ⟨w.heap.size, 0, none⟩) n n (hs.take k ++ List.replicate (n - k) (0, 0, 0)) ∧ Below w.heap.size w wr) (fun t _ => n - (intOf t).toNat)
  case atStart => exact ⟨0, Nat.zero_le _, rfl, by simpa using O1, B1⟩
  case round =>
    obtain ⟨k, hk, rfl, O2, B2⟩ := hrel
    have hge := B2.size
    by_cases hlt : k < n
    · have hltB : decide ((k : Int) < (n : Int)) = true := by simp; omega
      obtain ⟨b, o, f, t, q, rfl, hbl, hx, d0, d1, d2⟩ := (h.bel B2).at_ hlt
      have HST := Lib.hid (set_take hs (0, 0, 0) k n HLN.out hlt (f, t, q) hx)
      clear hx
      go_wp2_with (fail)
      refine (toHop_any f t q wr).mono ?_
      rintro e w3 ⟨rfl, B3⟩
      have O3 : OwnH w3 w.heap.size (some ⟨w.heap.size, 0, none⟩) n n (hs.take k ++ List.replicate (n - k) (0, 0, 0)) := World.ownsRow.kept O2 (grown_of_below B3) (.inr (by simp [Value.ownBlock]))
      obtain ⟨O4, G4⟩ := O3.put k (f, t, q)
      rw [HST.out] at O4
      obtain ⟨x, c0, c1, c2⟩ := O3.cells hlt
      have f1 : ∀ j, w3.frozen? ⟨w.heap.size, j, none⟩ = false := World.ownsRow.frozenAt O3
      have B4 : Below w.heap.size w _ := (B2.trans (B3.mono hge)).trans (below_of_grown G4 (by have := B3.size; omega) (fun j hj => by injection hj with hj; omega))
      clear O3 G4 B3
      go_wp2
      go_roundw
      case rel => exact ⟨k + 1, by omega, by go_num, O4, B4⟩
      case measure => simp [intOf]; omega
    · have hltB : decide ((k : Int) < (n : Int)) = false := by simp; omega
      obtain rfl : k = n := by omega
      rw [List.take_of_length_le (by rw [HLN.out]; omega), Nat.sub_self, List.replicate_zero, List.append_nil] at O2
      go_wp2
      go_ret
      exact ⟨_, _, rfl, O2, B2⟩
theorem eqHop_any (f t q : Int) (w : World) : Calls Try.prog 66 #[.agg #[.int .i64 f, .int .i64 t, .int .i64 q], .agg #[.int .i64 f, .int .i64 t, .int .i64 q]] w fun e w' => e = .returned (.bool true) ∧ Below w.heap.size w w' := by
  go_enter Try.func66, Try.ntmps66
  go_wp2
  go_ret
  exact ⟨rfl, ((Below.refl _ _).alloc (Nat.le_refl _) _).alloc (by simp) _⟩
set_option maxHeartbeats 2000000 in
theorem eqHopS_same {A A' : Option Addr} {n c n' c' : Nat} {hs : List Hop3} {w : World} (h : HasH w A n hs) (h' : HasH w A' n' hs) (hn : n ≤ 16777216) :
    Calls Try.prog 44 #[.slice A n c, .slice A' n' c'] w fun e w' => e = .returned (.bool true) ∧ Below w.heap.size w w' := by
  obtain rfl : n' = n := by have := h.1; have := h'.1; omega
  go_enter Try.func44, Try.ntmps44
  go_wp2
  go_loopw [5] (fun i wr => ∃ k : Nat, k ≤ n' ∧ i = .int .i64 k ∧ Below w.heap.size w wr) (fun i _ => n' - (intOf i).toNat)
  case atStart => exact ⟨0, Nat.zero_le _, rfl, Below.refl _ _⟩
  case round =>
    obtain ⟨k, hk, rfl, B⟩ := hrel
    have hge := B.size
    by_cases hlt : k < n'
    · have hltB : decide ((k : Int) < (n' : Int)) = true := by simp; omega
      obtain ⟨b, o, f, t, q, rfl, hbl, hx, d0, d1, d2⟩ := (h.bel B).at_ hlt
      obtain ⟨b', o', f', t', q', rfl, hbl', hx', d0', d1', d2'⟩ := (h'.bel B).at_ hlt
      have he : (f, t, q) = (f', t', q') := by rw [hx] at hx'; injection hx'
      injection he with e1 he
      injection he with e2 e3
      subst e1 e2 e3
      clear hx hx'
      have HQ : ∀ W : World, Hid (Calls Try.prog 66 #[.agg #[.int .i64 f, .int .i64 t, .int .i64 q], .agg #[.int .i64 f, .int .i64 t, .int .i64 q]] W fun e w' => e = .returned (.bool true) ∧ Below W.heap.size W w') := fun W => eqHop_any f t q W
      have HQH := Lib.hid HQ
      clear HQ
      have DB : Below wr.heap.size wr wr.drew := (Below.refl _ _).drew
      go_wp2
      go_region_with (go_at_call 66; refine (HQH.out _).out.mono ?_; rintro e w5 ⟨rfl, B5⟩)
      all_goals
        have B6 := B.trans ((DB.trans B5).mono hge)
        go_wp2
        go_roundw
        case rel => exact ⟨k + 1, by omega, by go_num, B6⟩
        case measure => simp [intOf]; omega
    · have hltB : decide ((k : Int) < (n' : Int)) = false := by simp; omega
      obtain rfl : k = n' := by omega
      go_wp2
      go_ret
      exact ⟨rfl, B⟩
set_option maxHeartbeats 2000000 in
theorem markHopS_any {A : Option Addr} {n c lo K : Nat} {hs : List Hop3} {w : World} (h : OwnH w lo A n c hs) (hn : n ≤ 16777216) (hK : K ≤ 1099511627776) :
    Calls Try.prog 45 #[.slice A n c, .int .i64 K] w fun e w' => e = .returned (.int .i64 ((K + 3 * n : Nat) : Int)) ∧ w.grownBy w' (A.map (·.block)) := by
  go_enter Try.func45, Try.ntmps45
  go_wp2
  go_loopw [1, 5] (fun q i wr => ∃ (k : Nat) (hs' : List Hop3), k ≤ n ∧ i = .int .i64 k ∧ q = .int .i64 ((K + 3 * k : Nat) : Int) ∧ OwnH wr lo A n c hs' ∧ w.grownBy wr (A.map (·.block))) (fun _ i _ => n - (intOf i).toNat)
  case atStart => exact ⟨0, hs, Nat.zero_le _, rfl, rfl, h, ⟨rfl, rfl, rfl, Nat.le_refl _, fun _ _ _ => rfl⟩⟩
  case round =>
    obtain ⟨k, hs', hk, rfl, rfl, O, G⟩ := hrel
    by_cases hlt : k < n
    · have hltB : decide ((k : Int) < (n : Int)) = true := by simp; omega
      obtain ⟨g, cap, hv, hg0, hg1⟩ := World.ownsRow.form O (by omega)
      injection hv with hA _ hcap
      subst hA hcap
      obtain ⟨x, c0, c1, c2⟩ := O.cells hlt
      have f1 : ∀ j, wr.frozen? ⟨g, j, none⟩ = false := World.ownsRow.frozenAt O
      obtain ⟨O2, G2⟩ := O.put k ((K : Int) + 3 * (k : Int), (K : Int) + 3 * (k : Int) + 1, (K : Int) + 3 * (k : Int) + 1 + 1)
      have G3 := gr_trans G G2
      clear O G2 G
      go_wp2
      exact ⟨⟨k + 1, _, by omega, by go_num, by go_num, O2, G3⟩, by simp [intOf]; omega⟩
    · have hltB : decide ((k : Int) < (n : Int)) = false := by simp; omega
      obtain rfl : k = n := by omega
      go_wp2
      go_ret
      exact ⟨rfl, G⟩

theorem stepL_le (ts : List Int) (ports : Int) (h : Hop3) : (stepL ts ports h).length ≤ 15 := by
  unfold stepL; split
  · rename_i hg; unfold stepT; rw [List.length_set]; have := hg.1.1.1; omega
  · simp
theorem outsL_le (ts : List Int) (ports : Int) (h : Hop3) : (outsL ts ports h).length ≤ 6 := by
  unfold outsL; split
  · exact portsL_le _ _ _ _
  · simp
theorem runR_ok {ports : Int} {hs : List Hop3} {r : List Int × List (List Int)} (h : runR ports hs = some r) : tOk r.1 ports ∧ r.2.length = hs.length ∧ hs.length ≤ 60 ∧ ∀ o ∈ r.2, o.length ≤ 6 := by
  unfold runR at h
  split at h
  · rename_i hok
    obtain ⟨h1, h2, h3⟩ := runTo_ok (fresh_ok hok.1) h
    exact ⟨h1, h2, hok.2, h3⟩
  · cases h
theorem runT_le (ports : Int) (hs : List Hop3) : (runT ports hs).length ≤ 15 := by
  unfold runT
  cases h : runR ports hs with
  | none => simp
  | some r => have := (runR_ok h).1.1; simp; omega
theorem runO_le (ports : Int) (hs : List Hop3) : (runO ports hs).length ≤ 60 ∧ (∀ o ∈ runO ports hs, o.length ≤ 16777216) ∧ ((runO ports hs).map List.length).sum ≤ 400 := by
  unfold runO
  cases h : runR ports hs with
  | none => simp
  | some r =>
    obtain ⟨_, h2, h3, h4⟩ := runR_ok h
    have hs : ∀ l : List (List Int), (∀ o ∈ l, o.length ≤ 6) → (l.map List.length).sum ≤ 6 * l.length := by
      intro l
      induction l with
      | nil => intro _; simp
      | cons x xs ih =>
        intro hx
        have e1 := ih (fun o ho => hx o (List.mem_cons_of_mem _ ho))
        have e2 := hx x List.mem_cons_self
        simp only [List.map_cons, List.sum_cons, List.length_cons]
        omega
    have := hs r.2 h4
    exact ⟨by simp; omega, fun o ho => by have := h4 o ho; omega, by simp; omega⟩
theorem OwnH.bel {w w' : World} {lo n c : Nat} {A : Option Addr} {hs : List Hop3} (h : OwnH w lo A n c hs) (hb : Below w.heap.size w w') : OwnH w' lo A n c hs :=
  World.ownsRow.kept h (grown_of_below hb) (by cases hA : (Value.slice A n c).ownBlock <;> simp)
theorem Own.keep {w w' : World} {lo n c : Nat} {e : TypeId} {A B : Option Addr} {xs : List Value} (h : Own w lo e A n c xs) (hg : w.grownBy w' (B.map (·.block))) (hne : ∀ a, A = some a → ∀ b, B = some b → a.block ≠ b.block) : Own w' lo e A n c xs :=
  h.grown hg (fun a ha hb => by
    cases B with
    | none => cases hb
    | some b => exact hne a ha b rfl (by simpa using hb))
theorem OwnVI.keep {w w' : World} {lo n c : Nat} {A B : Option Addr} {vs : List Value} {zss : List (List Int)} (h : OwnVI w lo A n c vs zss) (hg : w.grownBy w' (B.map (·.block))) (hne : ∀ i, InL A vs i → ∀ b, B = some b → i ≠ b.block) : OwnVI w' lo A n c vs zss :=
  h.heapEq (fun i hi => hg.block i (h.bounds hi).2 (fun e => by
    cases B with
    | none => cases e
    | some b => exact hne i hi b rfl (by simpa using e)))
theorem own_two {w : World} {lo lo' n c m d i : Nat} {A B : Option Addr} {vs : List Value} {zss : List (List Int)} {xs : List Value} (h : OwnVI w lo A n c vs zss) (k : Own w lo' 3 B m d xs) (he : (33 : TypeId) ≠ 3) (hi : A.map (·.block) = some i) : ∀ b, B = some b → i ≠ b.block := fun b hb e => by
  cases A with
  | none => cases hi
  | some a =>
    have := own_apart h.1 k he a rfl
    subst hb
    simp at hi
    apply this
    simp [hi, e]
end Go.Proofs.Ytimddobedgopiaa
