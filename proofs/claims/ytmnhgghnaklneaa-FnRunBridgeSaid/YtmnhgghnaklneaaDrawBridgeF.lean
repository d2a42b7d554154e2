/-
  Chapter 6's draw of a table and a frame, and the laws' comparison of two lists of slices: what is proved here is what they return, and that nothing that was there is written. Condition: lengths up to 2^24.
-/
import Derived.Test.YtmnhgghnaklneaaDrawBridge
import Derived.Test.YtmnhgghnaklneaaHops
import Derived.Test.YtmnhgghnaklneaaListI
import Derived.Test.YtmnhgghnaklneaaWnInts
namespace Go.Proofs.Ytmnhgghnaklneaa
open Go.RowKit

/-- Two plain results and a variable's struct. -/
theorem results_tt_row {P : Program} {fn : Func} {t u p : Tmp} {ty : TypeId} (h : fn.results = #[.tmp t, .tmp u, .cell p ty]) (tmps : Array Value) (w : World) (g : Nat) (tt : TypeId) (cs : Array Value) (fr : Nat × Nat) (d : TypeDesc)
    (hp : tmps.getD p undef = .pointer (some ⟨g, 0, none⟩)) (hg : w.heap[g]? = some (.cells cs tt fr))
    (hu : P.underlying ty = some d) (hd : (match d with | .struct _ | .array _ _ => true | _ => false) = true) (hi : (P.info? ty).map (·.size) = some cs.size) :
    (results fn tmps).run P w = .ok (.tuple #[tmps.getD t undef, tmps.getD u undef, .agg cs]) w := by
  have hp' : tmps[p]?.getD undef = .pointer (some ⟨g, 0, none⟩) := by simpa using hp
  simp [results, h, hp', asAddr, run_loadVar_row w g tt ty cs fr d hg hu hd hi, Result.andThen]

set_option maxHeartbeats 2000000 in
theorem drawBridgeStep_any {A : Option Addr} {n c : Nat} {zs : List Int} {w : World} (h : Has w A n (ints .u8 zs)) (hu : U8s zs) (hc : n ≤ c ∧ c ≤ maxLen) :
    Calls Try.prog 24 #[.slice A n c] w fun e w' => TabF w w' e := by
  have hR0 := heap_alloc_new w (.cells #[.int .i64 0, .int .i64 0, .int .i64 0] 33)
  have B0 : Below w.heap.size w (w.alloc (.cells #[.int .i64 0, .int .i64 0, .int .i64 0] 33)) := (Below.refl _ _).alloc (Nat.le_refl _) _
  have s0 : w.heap.size < (w.alloc (.cells #[.int .i64 0, .int .i64 0, .int .i64 0] 33)).heap.size := by simp
  have h0 := h.bel B0
  generalize hW0 : w.alloc (.cells #[.int .i64 0, .int .i64 0, .int .i64 0] 33) = w0 at hR0 B0 s0 h0
  go_enter Try.func24, Try.ntmps24
  go_wp2_with (fail)
  refine (open_any h0 hu hc).mono ?_
  rintro e w1 ⟨r, rfl, R1, B1⟩
  have hrl := R1.lt
  have hr0 := R1.1
  have s1 := B1.size
  go_wp2_with (fail)
  refine (l6Table_any R1 (by omega)).mono ?_
  rintro e w2 h2
  unfold TabR at h2
  obtain ⟨A2, n2, c2, ts, ports, p2, rfl, L2, T2, hn2, hpo, hp2, R2, G2⟩ := h2
  have C2 := bel_read B1 R1 G2
  have s2 := G2.size
  go_wp2_with (fail)
  refine (l6Hop_any R2 (by omega) hpo).mono ?_
  rintro e w3 h3
  unfold HopR at h3
  obtain ⟨f, t, q, p3, rfl, fb, tb, qb, hp3, R3, G3⟩ := h3
  have hrl2 := R2.lt
  have s3 := G3.size
  have L3 := L2.past hrl G3
  have C3 := bel_read C2 R2 G3
  have hR3 := (G3.block w.heap.size (by omega) (fun hh => by injection hh with hh; omega)).trans ((G2.block w.heap.size (by omega) (fun hh => by injection hh with hh; omega)).trans ((B1.block w.heap.size s0).trans hR0))
  have hF := three_set hR3 (.int .i64 f) (.int .i64 t) (.int .i64 q)
  have GF := three_grown w3 w.heap.size (.int .i64 f) (.int .i64 t) (.int .i64 q)
  have LF := (L3.past (by omega) GF).mono (Nat.le_trans (Nat.le_of_lt s0) s1)
  have CF := (B0.trans (C3.mono (Nat.le_of_lt s0))).trans (below_of_grown GF (by omega) (fun j hj => by cases hj; exact Nat.le_refl _))
  obtain ⟨tr0, tr1, tr2, ts0, ts1, ts2⟩ := three_cells hR3
  clear hW0
  go_wp2
  refine bodyPost_ret (results_tt_row rfl _ _ _ _ _ _ _ rfl hF Try.underlying33 rfl (by kernel_rfl)) rfl ?_
  exact ⟨_, _, _, ts, ports, f, t, q, rfl, LF, T2, hn2, hpo, by omega, by omega, by omega, CF⟩

set_option maxHeartbeats 1000000 in
theorem wnPairs_same {A A' : Option Addr} {n c n' c' : Nat} {zss : List (List Int)} {w : World} (h : HasLI w A n zss) (h' : HasLI w A' n' zss) (hn : n ≤ 16777216) (hl : ∀ zs ∈ zss, zs.length ≤ 16777216) :
    Calls Try.prog 30 #[.slice A n c, .slice A' n' c'] w fun e w' => e = .returned (.bool true) ∧ Below w.heap.size w w' := by
  obtain rfl : n' = n := by have := h.len; have := h'.len; omega
  go_enter Try.func30, Try.ntmps30
  go_wp2
  go_loopw [14] (fun i wr => ∃ k : Nat, k ≤ n' ∧ i = .int .i64 (k : Int) ∧ Below w.heap.size w wr) (fun i _ => n' - (intOf i).toNat)
  case atStart => exact ⟨0, Nat.zero_le _, rfl, Below.refl _ _⟩
  case round =>
    obtain ⟨k, hk, rfl, Bw⟩ := hrel
    by_cases hlt : k < n'
    · have hltB : decide ((k : Int) < (n' : Int)) = true := by simp; omega
      obtain ⟨b, o, B1, m, d, zs, rfl, hbl, hz, hc, hmd, hX⟩ := (h.bel Bw).at_ hlt
      obtain ⟨b', o', B2, m', d', zs', rfl, hbl', hz', hc', hmd', hX'⟩ := (h'.bel Bw).at_ hlt
      obtain rfl : zs = zs' := by rw [hz] at hz'; injection hz'
      have C := Lib.hid (wnInts_same (c := d) (c' := d') hX hX' (by have := hl zs (List.mem_of_getElem? hz); have := hX.len; omega))
      clear hz hz' hX hX'
      go_wp2_with (fail)
      refine C.out.mono ?_
      rintro e w2 ⟨rfl, B3⟩
      have B4 := bel_trans Bw B3
      go_wp2
      go_roundw
      case rel => exact ⟨k + 1, by omega, by go_num, B4⟩
      case measure => simp [intOf]; omega
    · have hltB : decide ((k : Int) < (n' : Int)) = false := by simp; omega
      obtain rfl : k = n' := by omega
      go_wp2
      go_ret
      exact ⟨rfl, Bw⟩
end Go.Proofs.Ytmnhgghnaklneaa
