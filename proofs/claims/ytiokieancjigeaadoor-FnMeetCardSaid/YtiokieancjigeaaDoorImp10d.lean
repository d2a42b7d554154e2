/-
  Chapter 10's program, the ports of a network as its iterator gives them: what is proved here is which ones it gives, with which tags, in which order. Condition: lengths up to 2^24.
-/
import Derived.Test.YtiokieancjigeaaDoorImp10c
import Derived.Test.YtiokieancjigeaaDoorVlanD
namespace Go.Proofs.YtiokieancjigeaaDoor
open Go.RowKit Go.Shelf

attribute [local go_sem] Oper.semAt_some

/-- What lay below n is as it was, but for block B. -/
structure But (n B : Nat) (W W' : World) : Prop where
  os : W'.os = W.os
  tape : W'.tape = W.tape
  output : W'.output = W.output
  size : W.heap.size ≤ W'.heap.size
  block : ∀ k, k < n → k ≠ B → W'.heap[k]? = W.heap[k]?
theorem But.refl (n B : Nat) (W : World) : But n B W W := ⟨rfl, rfl, rfl, Nat.le_refl _, fun _ _ _ => rfl⟩
theorem But.trans {n B : Nat} {W W' W'' : World} (h : But n B W W') (k : But n B W' W'') : But n B W W'' :=
  ⟨k.os.trans h.os, k.tape.trans h.tape, k.output.trans h.output, Nat.le_trans h.size k.size, fun i hi hB => (k.block i hi hB).trans (h.block i hi hB)⟩
theorem But.of_below {n B : Nat} {W W' : World} (h : Below n W W') : But n B W W' := ⟨h.os, h.tape, h.output, h.size, fun k hk _ => h.block k hk⟩
theorem But.setCell {n B : Nat} {W W' : World} (h : But n B W W') (i : Nat) (v : Value) : But n B W (W'.setCell ⟨B, i, none⟩ v) :=
  ⟨h.os, h.tape, h.output, by simpa using h.size, fun k hk hB => (heap_setCell_other W' ⟨B, i, none⟩ k v (fun e => hB e)).trans (h.block k hk hB)⟩
theorem But.below {n B n₀ : Nat} {W W' : World} (h : But n B W W') (h1 : n₀ ≤ n) (h2 : n₀ ≤ B) : Below n₀ W W' := ⟨h.os, h.tape, h.output, h.size, fun k hk => h.block k (by omega) (by omega)⟩
theorem But.cell {n B : Nat} {W W' : World} (h : But n B W W') {p : Addr} (h1 : p.block < n) (h2 : p.block ≠ B) : W'.cell? p = W.cell? p := World.cell?_of_block (h.block p.block h1 h2)
theorem ownFrom_but {β : Type} {n B m : Nat} {W0 : World} (hn : n ≤ m) (hn0 : n ≤ W0.heap.size) : OwnFrom m (fun (_ : β) W => But n B W0 W) := fun _ W W' row hs hg hr =>
  ⟨hg.os.trans hs.os, hg.tape.trans hs.tape, hg.output.trans hs.output, Nat.le_trans hs.size hg.size, fun k hk hB => by
    by_cases hl : k < W.heap.size
    · exact (hg.block k hl (fun e => by have := (hr k e.symm).1; omega)).trans (hs.block k hk hB)
    · exfalso; exact hl (by have := hs.size; omega)⟩
theorem but_b {n₁ Bo : Nat} {w : World} (hn : n₁ ≤ w.heap.size) (W : World) (l : Nat) (o o' : Obj) (hl : w.heap.size ≤ l) (h : W.heap[l]? = some o) (h1 : o.isCells = false) (h2 : o.isWalk = false) : But n₁ Bo W (W.putObj l o') :=
  But.of_below (belowK_b (w := w) hn W l o o' hl h h1 h2)

def encO (x : Int × Int) : Array Value := #[.int .i64 x.1, .int .i64 x.2]
theorem outs_pre (ps : List Port) (v : Int) : ∀ {k n : Nat}, k ≤ n → outsTo ps v k <+: outsTo ps v n := by
  intro k n h
  induction n with
  | zero => obtain rfl : k = 0 := by omega
            exact List.prefix_refl _
  | succ n ih =>
    by_cases hk : k = n + 1
    · subst hk; exact List.prefix_refl _
    · rw [outs_succ]; exact List.IsPrefix.trans (ih (by omega)) (List.prefix_append _ _)
theorem outs_more {ps : List Port} {v : Int} {k : Nat} (h : 0 ≤ outI (dp ps k) v) : outsTo ps v (k + 1) = outsTo ps v k ++ [((k : Int), outI (dp ps k) v)] := by rw [outs_succ, if_pos h]
theorem outs_same {ps : List Port} {v : Int} {k : Nat} (h : outI (dp ps k) v < 0) : outsTo ps v (k + 1) = outsTo ps v k := by rw [outs_succ, if_neg (by omega), List.append_nil]

set_option maxRecDepth 100000 in
set_option maxHeartbeats 8000000 in
theorem ports_any (m : Nat) (hm : 1 ≤ m) (l B1 B2 n c n₁ Bo : Nat) (A : Option Addr) (ps : List Port) (v : Int) (w : World) (hb1 : w.heap[B1]? = some (.cells #[.slice A n c] 51 (0, 0))) (hb2 : w.heap[B2]? = some (.cells #[.int .i64 v] 3 (0, 0)))
    (h : Has w A n (ps.map ifc)) (hok : psOk ps) (hB1 : B1 < n₁ ∧ B1 ≠ Bo) (hB2 : B2 < n₁ ∧ B2 ≠ Bo) (hlist : ∀ b o, A = some ⟨b, o, none⟩ → b < n₁ ∧ b ≠ Bo) (hn₁ : n₁ ≤ w.heap.size) (J Jx : List (Int × Int) → World → Prop)
    (W : World) (hW : But n₁ Bo w W) (hAb : AbidesFrom W.heap.size J)
    (hY : ∀ pre x W1, J pre W1 → pre.length < n → YieldAt Fence.wide (m - 1) Tryd.prog l (encO x) W1 fun e W' =>
      (e = .returned (.bool true) ∧ J (pre ++ [x]) W' ∧ But n₁ Bo W1 W') ∨ (e = .returned (.bool false) ∧ Jx (pre ++ [x]) W'))
    (h0 : J [] W) :
    CallsIn Fence.wide m Tryd.prog 46 #[.func (.yield l) #[] #[], .pointer (some ⟨B1, 0, none⟩), .pointer (some ⟨B2, 0, none⟩)] W fun e W' => (∃ v, e = .returned v) ∧
      ((∃ ys, ys = outsTo ps v n ∧ J ys W') ∨ (∃ pre, pre <+: outsTo ps v n ∧ Jx pre W')) := by
  have hl : ps.length = n := by have := h.1; simpa using this
  have HL := Lib.hid hl
  have hn6 : n ≤ 6 := by have := hok.2.2; omega
  have hbel : ∀ pre W1 W2, J pre W1 → Below W1.heap.size W1 W2 → J pre W2 := fun pre W1 W2 hJ hb => hAb _ _ _ none hJ (grown_of_below hb) (fun r e => by cases e)
  have HD := Lib.hid hbel
  have HC1 : Hid (∀ W1, But n₁ Bo w W1 → W1.cell? ⟨B1, 0, none⟩ = some (.slice A n c)) := fun W1 hB => (cell_of_row W1 B1 0 _ _ (0, 0) ((hB.block _ hB1.1 hB1.2).trans hb1)).trans rfl
  have HC2 : Hid (∀ W1, But n₁ Bo w W1 → W1.cell? ⟨B2, 0, none⟩ = some (.int .i64 v)) := fun W1 hB => (cell_of_row W1 B2 0 _ _ (0, 0) ((hB.block _ hB2.1 hB2.2).trans hb2)).trans rfl
  have HLI := Lib.hid hlist
  have HOK := Lib.hid hok
  have k00 := HC1.out W hW
  clear hbel hAb hlist hB1 hB2 hb1 hb2 hok
  refine callsIn_of_wp Tryd.func46 rfl trivial ?_ rfl
  simp only [Tryd.ntmps46, List.size_toArray, List.length_cons, List.length_nil, Nat.reduceAdd, Nat.reduceSub, Array.replicate_succ, Array.replicate_zero, List.push_toArray, List.append_toArray, List.nil_append, List.cons_append]
  gi_wp2
  gi_loopw [9] (fun i wr => ∃ k : Nat, k ≤ n ∧ i = .int .i64 (k : Int) ∧ J (outsTo ps v k) wr ∧ But n₁ Bo w wr) (fun i _ => n - (intOf i).toNat)
  case atStart => exact ⟨0, Nat.zero_le _, rfl, h0, hW⟩
  case round =>
    obtain ⟨k, hk, rfl, hJ, hB⟩ := hrel
    have k0 := HC1.out _ hB
    have k1 := HC2.out _ hB
    by_cases hlt : k < n
    · have hltB : decide ((k : Int) < (n : Int)) = true := by simp; omega
      obtain ⟨b, o, rfl, hc⟩ := h.2 k hlt
      obtain ⟨hbl, hbl2⟩ := HLI.out b o rfl
      have hpk : (ps.map ifc)[k]? = some (ifc (dp ps k)) := by rw [List.getElem?_map, dp_some (by have := HL.out; omega)]; rfl
      have k2 := ((hB.cell (p := ⟨b, o + k, none⟩) hbl hbl2).trans hc).trans hpk
      have j0 : (0 : Int) ≤ (k : Int) := by omega
      have j1 : (k : Int) < (n : Int) := by omega
      have hwr : n₁ ≤ wr.heap.size := Nat.le_trans hn₁ hB.size
      have hok := dp_ok HOK.out (show k < ps.length by have := HL.out; omega)
      have hlen := outs_len ps v k
      have HM := Lib.hid (outs_more (ps := ps) (v := v) (k := k))
      have HS := Lib.hid (outs_same (ps := ps) (v := v) (k := k))
      have HN := Lib.hid (outI_neg (dp ps k) v)
      have HP := Lib.hid (outs_pre ps v (show k + 1 ≤ n by omega))
      obtain ⟨t, ht⟩ : ∃ t, outI (dp ps k) v = t := ⟨_, rfl⟩
      clear hc hpk
      rcases ifc_outs hok v with ⟨q, s, e1, hM, hC⟩ | ⟨q, e1, hM, hC⟩
      all_goals
        rw [e1] at k2
        rw [ht] at hC HM HS HN
        have C := Lib.hid (hC wr)
        clear e1 hC ht hok
        gi_wp2_with (fail)
        refine ⟨trivial, ?_⟩
        refine (callsIn_wide.2 C.out).mono ?_
        rintro e w2 ⟨rfl, B2'⟩
        have hJ2 := HD.out _ _ _ hJ B2'
        have hB2 := hB.trans (But.of_below (B2'.mono hwr))
        by_cases h0t : 0 ≤ t
        · have tB : (t != -1) = true := by simp; omega
          have HMM := HM.out h0t
          have HX := Lib.hid HMM
          obtain ⟨fn, tmps, assign, body, hyy, hR⟩ := hY (outsTo ps v k) ((k : Int), t) w2 hJ2 (by omega)
          dsimp only [encO] at hyy
          clear h0t k0 k1 k2 HMM
          gi_wp2
          refine hR.mono ?_
          rintro e2 W3 (⟨rfl, hJ3, hk3⟩ | ⟨rfl, hJx3⟩)
          · have hB3 := hB2.trans hk3
            gi_wp2
            go_roundw
            case rel => exact ⟨k + 1, by omega, by go_num, by rw [HX.out]; exact hJ3, hB3⟩
            case measure => simp [intOf]; omega
          · gi_wp2
            refine bodyPost_ret (results_none rfl _ _ _) rfl ?_
            exact ⟨⟨_, rfl⟩, .inr ⟨_, by rw [← HX.out]; exact HP.out, hJx3⟩⟩
        · have ht1 := HN.out (by omega)
          have HX := Lib.hid (HS.out (by omega))
          subst ht1
          have tB : ((-1 : Int) != -1) = false := rfl
          clear h0t k0 k1 k2
          gi_wp2
          refine ⟨(fun f hf => by cases hf), ?_⟩
          gi_wp2
          go_roundw
          case rel => exact ⟨k + 1, by omega, by go_num, by rw [HX.out]; exact hJ2, hB2⟩
          case measure => simp [intOf]; omega
    · have hltB : decide ((k : Int) < (n : Int)) = false := by simp; omega
      obtain rfl : k = n := by omega
      gi_wp2
      go_end0
      exact ⟨⟨_, rfl⟩, .inl ⟨_, rfl, hJ⟩⟩
end Go.Proofs.YtiokieancjigeaaDoor
