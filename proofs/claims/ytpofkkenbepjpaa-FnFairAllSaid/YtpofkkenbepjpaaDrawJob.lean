/-
  Chapter 12's draws: what is proved here is that weights, jobs and orders are drawn, in memory of their own, and that nothing that was there is written. No condition.
-/
import Derived.Test.YtpofkkenbepjpaaJobC
import Derived.Test.YtpofkkenbepjpaaImp12d
import Derived.WalkSmall
namespace Go.Proofs.Ytpofkkenbepjpaa
open Go.RowKit

theorem Try.infoJobD : (Try.prog.info? 31).map (fun i => (i.zero, i.size, i.bytes)) = some (some (.agg #[.int .i64 0, .int .i64 0]), 2, 16) := by kernel_rfl
theorem OwnD.past {w w' : World} {e : TypeId} {lo r n c : Nat} {A : Option Addr} {hs : List Duo} (h : OwnD w lo e A n c hs) (hr : r < lo) (hg : w.grownBy w' (some r)) : OwnD w' lo e A n c hs :=
  World.ownsRow.kept h hg (by
    cases A with
    | none => exact .inl rfl
    | some a => exact .inr (by have := World.ownsRow.lt h a.block rfl; simp [Value.ownBlock]; omega))
theorem ownD_far {w w' : World} {lo lo' r p n c : Nat} {e : TypeId} {A : Option Addr} {hs : List Duo} (h : OwnD w lo' e A n c hs) (hr : r < lo') (R : Rd w' lo r p) : ∀ k, A.map (·.block) = some k → lo ≤ k ∧ k ≠ r := by
  intro k hk
  have h1 : (Value.slice A n c).ownBlock = some k := by cases A <;> simp_all [Value.ownBlock]
  have h2 := (World.ownsRow.lt h k h1).1
  have h3 := R.1
  exact ⟨by omega, by omega⟩
theorem ownD_ge {w : World} {lo' n c : Nat} {e : TypeId} {A : Option Addr} {hs : List Duo} (h : OwnD w lo' e A n c hs) : ∀ k, A.map (·.block) = some k → lo' ≤ k := by
  intro k hk
  have h1 : (Value.slice A n c).ownBlock = some k := by cases A <;> simp_all [Value.ownBlock]
  exact (World.ownsRow.lt h k h1).1
/-- Ints and jobs do not lie in one block. -/
theorem own_apartJ {w : World} {lo lo' n c m d : Nat} {A B : Option Addr} {xs : List Value} {js : List Duo} (h : Own w lo 3 A n c xs) (hj : OwnD w lo' 31 B m d js) : ∀ b, A.map (·.block) = some b → B.map (·.block) ≠ some b := by
  intro b hb hb2
  have h1 : (Value.slice A n c).ownBlock = some b := by cases A <;> simp_all [Value.ownBlock]
  have h2 : (Value.slice B m d).ownBlock = some b := by cases B <;> simp_all [Value.ownBlock]
  obtain ⟨c1, f1, e1⟩ := ownD_type hj h2
  have : ∃ cur fz, w.heap[b]? = some (.cells cur 3 fz) := by
    rcases h.2 with ⟨hv, _⟩ | ⟨g, cap, cur, hv, _, hg, _⟩
    · cases hv; cases h1
    · cases hv
      have : g = b := by simpa [Value.ownBlock] using h1
      subst this
      exact ⟨cur, _, hg⟩
  obtain ⟨c2, f2, e2⟩ := this
  rw [e1] at e2
  injection e2 with e2
  injection e2 with _ e2
  exact absurd e2 (by decide)
theorem Own.offD {w w' : World} {lo lo' n c m d : Nat} {A B : Option Addr} {xs : List Value} {js : List Duo} (h : Own w lo 3 A n c xs) (hj : OwnD w lo' 31 B m d js) (hg : w.grownBy w' (B.map (·.block))) : Own w' lo 3 A n c xs :=
  h.grown hg (fun a ha he => own_apartJ h hj a.block (by rw [ha]; rfl) he.symm)
theorem OwnD.offI {w w' : World} {lo lo' n c m d : Nat} {A B : Option Addr} {xs : List Value} {js : List Duo} (hj : OwnD w lo' 31 B m d js) (h : Own w lo 3 A n c xs) (hg : w.grownBy w' (A.map (·.block))) : OwnD w' lo' 31 B m d js :=
  World.ownsRow.kept hj hg (by
    cases B with
    | none => exact .inl rfl
    | some b => exact .inr (fun e => own_apartJ h hj b.block (by simpa [Value.ownBlock] using e.symm) rfl))

/-- 'out = append(out, Job{x, y})' onto a slice that the call made: the job lies in a new block, as the walk leaves it. -/
theorem wpList_appD {P : Program} {ops : Array Oper} {rest : List Oper} {o : Oper} {a : Act} {Q : Exit → Act → World → Prop} (w : World) (hgd : o.guard = none) (s x : Operand) (t : TypeId)
    (ho : o.op = .call { callee := .builtin .append, args := #[s, x], argTypes := #[t, t] })
    (lo : Nat) (e : TypeId) (i : TypeInfo) (z : Value) (bytes : Nat) (ht : P.underlying t = some (.slice e)) (hi : P.info? e = some i) (hz : i.zero = some z) (hsize : i.size = 2) (hby : i.bytes = bytes) (hzs : z.cells.size = 2)
    (A : Option Addr) (n c : Nat) (js : List Duo) (hs : a.eval s = .slice A n c) (hown : OwnD w lo e A n c js) (u v : Int) (c' : Nat) (hx : a.eval x = .slice (some ⟨w.heap.size, 0, none⟩) 1 c')
    (h63 : n ≤ 1000000) (hbytes : bytes ≤ 64) (hlo : lo ≤ w.heap.size)
    (h : ∀ g cap w', OwnD w' lo e (some ⟨g, 0, none⟩) (n + 1) cap (js ++ [(u, v)]) → w.grownBy w' (A.map (·.block)) → wpList P ops Q rest (a.put o.dst (.slice (some ⟨g, 0, none⟩) (n + 1) cap)) w') :
    wpList P ops Q (o :: rest) a (w.alloc (.cells #[.int .i64 u, .int .i64 v] e)) := by
  have hownA : (w.alloc (.cells #[.int .i64 u, .int .i64 v] e)).ownsRow lo e 2 (.slice A n c) n (flatD js) := World.ownsRow.alloc hown _
  have hb : (A.map (·.block)) = (Value.slice A n c).ownBlock := by cases A <;> rfl
  refine wpList_append_lies (w.alloc (.cells #[.int .i64 u, .int .i64 v] e)) hgd s x t ho lo e i z 2 bytes ht hi hz hsize hby hzs (by decide) _ n (flatD js) hs hownA ⟨w.heap.size, 0, none⟩ 1 c' [.int .i64 u, .int .i64 v] hx rfl ?_ (by simp [Value.oneCell']) (by decide) (by unfold maxLen; omega) ?_ (by simp; omega) _ rfl ?_
  · intro j y hy
    have hadd : (⟨w.heap.size, 0, none⟩ : Addr).add j = ⟨w.heap.size, j, none⟩ := by unfold Addr.add; split <;> simp_all
    rw [hadd, cell_of_row (w.alloc (.cells #[.int .i64 u, .int .i64 v] e)) w.heap.size j _ e (0, 0) (heap_alloc_new w _)]
    simpa using hy
  · calc (n + 1) * bytes ≤ 1000001 * 64 := Nat.mul_le_mul (by omega) hbytes
      _ ≤ 140737488355328 := by decide
  · intro g cap w' h2 h3 _ _
    have hg : w.grownBy w' (A.map (·.block)) := by
      rw [hb]
      exact ⟨h3.os, h3.tape, h3.output, Nat.le_trans (by simp) h3.size, fun k hk hne => (h3.block k (by simp; omega) hne).trans (Below.heap_alloc w _ k hk)⟩
    refine h g cap w' ?_ hg
    unfold OwnD; rw [flatD_app]; exact h2

theorem own_noneJ {w : World} {lo g n c : Nat} {e : TypeId} {xs : List Value} (h : Own w lo e (some ⟨g, 0, none⟩) n c xs) : Own w lo e (some ⟨g, 0, none⟩) 0 c [] := by
  rcases h.2 with ⟨hv, _⟩ | ⟨g', cap, cur, hv, hl, hg, hnc, hcm, hcs, _⟩
  · cases hv
  · injection hv with hA _ hc
    exact ⟨rfl, .inr ⟨g', cap, cur, by rw [hA, hc], hl, hg, Nat.zero_le _, hcm, hcs, by simp⟩⟩
/-- Weights and jobs, drawn with a source. -/
def JobsR (lo r p : Nat) (w w' : World) (e : Ending) : Prop := ∃ (A : Option Addr) (n c : Nat) (ws : List Int) (B : Option Addr) (m d : Nat) (js : List Duo) (p' : Nat), e = .returned (.tuple #[.slice A n c, .slice B m d]) ∧ Own w' w.heap.size 3 A n c (ints .i64 ws) ∧ OwnD w' w.heap.size 31 B m d js ∧ n ≤ 5 ∧ m ≤ 31 ∧ p' ≤ p + 100 ∧ Rd w' lo r p' ∧ w.grownBy w' (some r)

set_option maxRecDepth 100000 in
set_option maxHeartbeats 16000000 in
theorem l12Jobs_any {lo r p : Nat} {w : World} (h : Rd w lo r p) (hp : p ≤ 274877906944) :
    Calls Try.prog 43 #[.pointer (some ⟨r, 0, none⟩)] w fun e w' => JobsR lo r p w w' e := by
  obtain ⟨i0, hi, hz0, hz1, hz2⟩ := info_parts Try.infoInt
  obtain ⟨j0, hji, jz0, jz1, jz2⟩ := info_partsD Try.infoJobD
  have hrl := h.lt
  have hlo := h.1
  have E1 := lit_ownJ w
  have R1 := h.alloc (.cells #[] 3)
  have G1 : w.grownBy (w.alloc (.cells #[] 3)) (some r) := World.grownBy_alloc _ _ _
  go_enter Try.func43, Try.ntmps43
  go_wp2_with (fail)
  refine (num_any (n := 4) (l := [2, 3, 4, 1]) (R1.alloc _) (by omega) (Has.rowAt #[.int .i64 2, .int .i64 3, .int .i64 4, .int .i64 1] rfl rfl (by decide) _ (by simp)) (fun ad ha => by injection ha with ha; subst ha; simp; omega) (by omega) (by omega)).mono ?_
  rintro e w2 ⟨v, rfl, hv, R2, G2⟩
  have hvb : 1 ≤ v ∧ v ≤ 4 := by simp at hv; omega
  obtain ⟨k0, rfl⟩ := Int.eq_ofNat_of_zero_le (show 0 ≤ v by omega)
  clear hv
  have O2 := E1.past hrl (gr_alloc G2)
  have G12 := gr_trans G1 (gr_alloc G2)
  have hk4 : k0 ≤ 4 := by omega
  have hk1 : 1 ≤ k0 := by omega
  have s2 := G12.size
  clear E1 R1 G1 G2
  go_wp2
  go_loopw [4, 5] (fun v i wr => ∃ (k : Nat) (A' : Option Addr) (q c' : Nat) (ws : List Int) (p' : Nat), k + q = k0 ∧ i = .int .i64 (k : Int) ∧ v = .slice A' q c' ∧ Own wr w.heap.size 3 A' q c' (ints .i64 ws) ∧ p' ≤ p + 1 + q ∧ Rd wr lo r p' ∧ w.grownBy wr (some r)) (fun _ i _ => (intOf i).toNat)
  case atStart => exact ⟨k0, _, 0, _, [], p + 1, by omega, rfl, rfl, O2, by omega, R2, G12⟩
  case round =>
    clear O2 R2 G12 s2
    obtain ⟨k, A2, q2, c2, ws, p2, hkq, rfl, rfl, O2, hp2, R2, G2⟩ := hrel
    have s2 := G2.size
    by_cases hk : 0 < k
    · have hkB : decide ((k : Int) > 0) = true := by simp; omega
      have hkC : decide (0 < (k : Int)) = true := by simp; omega
      go_wp2_with (fail)
      refine (num_any (n := 5) (l := [1, 2, 1, 3, 9]) (R2.alloc _) (by omega) (Has.row #[.int .i64 1, .int .i64 2, .int .i64 1, .int .i64 3, .int .i64 9] rfl rfl (by unfold maxLen; omega)) (fun ad ha => by injection ha with ha; subst ha; have := R2.lt; simp; omega) (by omega) (by omega)).mono ?_
      rintro e w4 ⟨z, rfl, hz, R4, G4⟩
      clear hz
      have O4 := (O2.bel (below_allocJ wr (.cells #[.int .i64 1, .int .i64 2, .int .i64 1, .int .i64 3, .int .i64 9] 3))).past hrl G4
      have G24 := gr_trans G2 (gr_alloc G4)
      have s4 := G24.size
      go_wp2_with (at_builtin; refine wpList_apps _ rfl (.tmp 16) (.tmp 20) 23 rfl w.heap.size 3 i0 (.int .i64 0) 8 Try.underlying23 hi hz0 hz1 hz2 rfl A2 q2 c2 _ rfl O4 1 1 #[.int .i64 z] rfl rfl (by simp [Value.oneCell']) (by decide) (by omega) (by decide) s4 ?_; intro g5 c5 w5 O5 G5 B5 _)
      have R5 := R4.grown G5 (own_far O4 hrl R4)
      have G25 := gr_new G24 G5 (own_ge O4)
      go_roundw
      case rel => exact ⟨k - 1, _, q2 + 1, _, ws ++ [z], p2 + 1, by omega, by go_num, rfl, by rw [intsJ_app]; exact O5, by omega, R5, G25⟩
      case measure => simp [intOf]; omega
    · obtain rfl : k = 0 := by omega
      obtain rfl : q2 = k0 := by omega
      have O3 : OwnD (wr.alloc (.cells #[] 31)) w.heap.size 31 (some ⟨wr.heap.size, 0, none⟩) 0 0 [] := World.ownsRow_lit wr #[] 0 s2 (by unfold maxLen; omega) rfl
      have O2' := O2.bel (below_allocJ wr (.cells #[] 31))
      have R3 := R2.alloc (.cells #[] 31)
      have G3 := gr_bel G2 (below_allocJ wr (.cells #[] 31))
      have hr2 := R2.lt
      go_wp2_with (fail)
      refine (num_any (n := 6) (l := [8, 14, 4, 30, 0, 1]) (R3.alloc _) (by omega) (Has.rowAt #[.int .i64 8, .int .i64 14, .int .i64 4, .int .i64 30, .int .i64 0, .int .i64 1] rfl rfl (by decide) _ (by simp)) (fun ad ha => by injection ha with ha; subst ha; simp; omega) (by omega) (by omega)).mono ?_
      rintro e w4 ⟨v, rfl, hv, R4, G4⟩
      have hvb : 0 ≤ v ∧ v ≤ 30 := by simp at hv; omega
      obtain ⟨k1, rfl⟩ := Int.eq_ofNat_of_zero_le hvb.1
      have hk30 : k1 ≤ 30 := by omega
      clear hv hvb
      have O4 := O3.past hrl (gr_alloc G4)
      have P4 := O2'.past hrl (gr_alloc G4)
      have G14 := gr_trans G3 (gr_alloc G4)
      clear O3 O2 O2' R3 G3 G4 R2 G2
      go_wp2
      generalize hwb : wr = wb at *; clear hwb
      go_loopw [6, 7] (fun v i wr => ∃ (k : Nat) (B' : Option Addr) (m' d' : Nat) (js : List Duo) (p' : Nat), k + m' = k1 ∧ i = .int .i64 (k : Int) ∧ v = .slice B' m' d' ∧ Own wr w.heap.size 3 A2 q2 c2 (ints .i64 ws) ∧ OwnD wr w.heap.size 31 B' m' d' js ∧ p' ≤ p + 6 + 2 * m' ∧ Rd wr lo r p' ∧ w.grownBy wr (some r)) (fun _ i _ => (intOf i).toNat)
      case atStart => exact ⟨k1, _, 0, _, [], _, by omega, rfl, rfl, P4, O4, by omega, R4, G14⟩
      case round =>
        clear P4 O4 R4 G14 s2 hr2 hkq hk hp2
        obtain ⟨k, B3, m3, d3, js, p3, hkm, rfl, rfl, P3, O3, hp3, R3, G3⟩ := hrel
        have s3 := G3.size
        by_cases hk : 0 < k
        · have hkB : decide ((k : Int) > 0) = true := by simp; omega
          have hkC : decide (0 < (k : Int)) = true := by simp; omega
          go_wp2_with (fail)
          refine (pick_any R3 (by omega) (by omega)).mono ?_
          rintro e w5 ⟨a, rfl, ha, R5, G5⟩
          clear ha
          go_wp2_with (fail)
          refine (pick_any R5 (by omega) (by omega)).mono ?_
          rintro e w6 ⟨b, rfl, hb, R6, G6⟩
          have hbb : 0 ≤ b ∧ b ≤ 8 := by unfold Picked at hb; omega
          clear hb
          have P6 := (P3.past hrl G5).past hrl G6
          have O6 := (O3.past hrl G5).past hrl G6
          have G36 := gr_trans (gr_trans G3 G5) G6
          have s6 := G36.size
          have wS : IntKind.i64.wrap (1 + b) = 1 + b := IntWalk.i64_in _ (by omega)
          clear P3 O3 R3 G3 R5 G5 G6
          go_wp2_with (at_builtin; refine wpList_appD _ rfl (.tmp 30) (.tmp 39) 24 rfl w.heap.size 31 j0 (.agg #[.int .i64 0, .int .i64 0]) 16 Try.underlying24 hji jz0 jz1 jz2 rfl B3 m3 d3 js rfl O6 a (1 + b) 1 rfl (by omega) (by decide) s6 ?_; intro g7 c7 w7 O7 G7)
          have R7 := R6.grown G7 (ownD_far O6 hrl R6)
          have P7 := P6.offD O6 G7
          have G37 := gr_new G36 G7 (ownD_ge O6)
          go_roundw
          case rel => exact ⟨k - 1, _, m3 + 1, _, _, p3 + 1 + 1, by omega, by go_num, rfl, P7, O7, by omega, R7, G37⟩
          case measure => simp [intOf]; omega
        · obtain rfl : k = 0 := by omega
          obtain rfl : m3 = k1 := by omega
          obtain ⟨g, hA, hg1, hg2⟩ : ∃ g, A2 = some ⟨g, 0, none⟩ ∧ w.heap.size ≤ g ∧ g < wr.heap.size := by
            obtain ⟨g, cap, hv, h1, h2⟩ := World.ownsRow.form P3 (by omega)
            injection hv with hA _ _
            exact ⟨g, hA, h1, h2⟩
          subst hA
          have hgr : g ≠ r := by omega
          go_wp2_with (fail)
          refine (pick_any R3 (by omega) (by omega)).mono ?_
          rintro e w5 ⟨t, rfl, ht, R5, G5⟩
          clear ht
          have P5 := P3.past hrl G5
          have O5 := O3.past hrl G5
          have G35 := gr_trans G3 G5
          have s5 := G35.size
          clear P3 O3 R3 G3 G5
          by_cases t0 : t = 0
          · subst t0
            go_wp2_with (fail)
            refine (num_any (n := 2) (l := [0, 10]) (R5.alloc _) (by omega) (Has.row #[.int .i64 0, .int .i64 10] rfl rfl (by unfold maxLen; omega)) (fun ad ha => by injection ha with ha; subst ha; have := R5.lt; simp; omega) (by omega) (by omega)).mono ?_
            rintro e w6 ⟨z, rfl, hz, R6, G6⟩
            clear hz
            have P6 := (P5.bel (below_allocJ w5 (.cells #[.int .i64 0, .int .i64 10] 3))).past hrl G6
            have O6 := (O5.bel (below_allocJ w5 (.cells #[.int .i64 0, .int .i64 10] 3))).past hrl G6
            have G36 := gr_trans G35 (gr_alloc G6)
            obtain ⟨u, _, x0, x1⟩ := P6.at_ (k := 0) (by omega)
            have P7 := P6.set_ 0 (.int .i64 z)
            rw [ints_set] at P7
            have GS := set_grownJ w6 g 0 (.int .i64 z)
            have O7 := O6.offI P6 GS
            have R7 := R6.grown GS (fun k hk => by injection hk with hk; have := h.1; omega)
            have G37 := gr_new G36 GS (fun k hk => by injection hk with hk; omega)
            go_wp2
            refine bodyPost_ret (results_tmp2 rfl _ _ _) rfl ?_
            exact ⟨_, _, _, _, _, _, _, _, _, rfl, P7, O7, by omega, by omega, by omega, R7, G37⟩
          have t0B : (t == 0) = false := by simp [t0]
          by_cases t1 : t = 1
          · subst t1
            go_wp2_with (at_builtin; refine wpList_appD _ rfl (.tmp 52) (.tmp 56) 24 rfl w.heap.size 31 j0 (.agg #[.int .i64 0, .int .i64 0]) 16 Try.underlying24 hji jz0 jz1 jz2 rfl B3 m3 d3 js rfl O5 _ 1 1 rfl (by omega) (by decide) s5 ?_; intro g7 c7 w7 O7 G7)
            have R7 := R5.grown G7 (ownD_far O5 hrl R5)
            have P7 := P5.offD O5 G7
            have G37 := gr_new G35 G7 (ownD_ge O5)
            refine bodyPost_ret (results_tmp2 rfl _ _ _) rfl ?_
            exact ⟨_, _, _, _, _, _, _, _, _, rfl, P7, O7, by omega, by omega, by omega, R7, G37⟩
          have t1B : (t == 1) = false := by simp [t1]
          by_cases t2 : t = 2
          · subst t2
            go_wp2_with (fail)
            refine (num_any (n := 2) (l := [0, 10]) (R5.alloc _) (by omega) (Has.row #[.int .i64 0, .int .i64 10] rfl rfl (by unfold maxLen; omega)) (fun ad ha => by injection ha with ha; subst ha; have := R5.lt; simp; omega) (by omega) (by omega)).mono ?_
            rintro e w6 ⟨z, rfl, hz, R6, G6⟩
            clear hz
            have P6 := (P5.bel (below_allocJ w5 (.cells #[.int .i64 0, .int .i64 10] 3))).past hrl G6
            have O6 := (O5.bel (below_allocJ w5 (.cells #[.int .i64 0, .int .i64 10] 3))).past hrl G6
            have G36 := gr_trans G35 (gr_alloc G6)
            have s6 := G36.size
            go_wp2_with (at_builtin; refine wpList_appD _ rfl (.tmp 60) (.tmp 65) 24 rfl w.heap.size 31 j0 (.agg #[.int .i64 0, .int .i64 0]) 16 Try.underlying24 hji jz0 jz1 jz2 rfl B3 m3 d3 js rfl O6 0 z 1 rfl (by omega) (by decide) s6 ?_; intro g7 c7 w7 O7 G7)
            have R7 := R6.grown G7 (ownD_far O6 hrl R6)
            have P7 := P6.offD O6 G7
            have G37 := gr_new G36 G7 (ownD_ge O6)
            refine bodyPost_ret (results_tmp2 rfl _ _ _) rfl ?_
            exact ⟨_, _, _, _, _, _, _, _, _, rfl, P7, O7, by omega, by omega, by omega, R7, G37⟩
          have t2B : (t == 2) = false := by simp [t2]
          by_cases t3 : t = 3
          · subst t3
            have hr5 := R5.lt
            go_wp2_with (fail)
            refine (num_any (n := 2) (l := [0, 5]) ((R5.alloc _).alloc _) (by omega) (Has.rowAt #[.int .i64 0, .int .i64 5] rfl rfl (by decide) _ (by simp)) (fun ad ha => by injection ha with ha; subst ha; simp; omega) (by omega) (by omega)).mono ?_
            rintro e w6 ⟨z, rfl, hz, R6, G6⟩
            have L6 := Own.lit0 hr5 (by simp; unfold maxLen; omega) G6
            have O6 := ((O5.bel (below_allocJ w5 _)).bel (below_allocJ _ _)).past hrl G6
            have G36 := gr_trans G35 (gr_alloc (gr_alloc G6))
            have L7 : Own w6 w.heap.size 3 (some ⟨w5.heap.size, 0, none⟩) 5 5 (ints .i64 [1, 1, 1, 1, 1]) := L6.mono s5
            have hz2 : z = 0 ∨ z = 5 := by simpa using hz
            clear hz L6 G6 P5
            rcases hz2 with rfl | rfl
            · have L8 : Own w6 w.heap.size 3 (some ⟨w5.heap.size, 0, none⟩) 0 5 (ints .i64 []) := own_noneJ L7
              go_wp2
              refine bodyPost_ret (results_tmp2 rfl _ _ _) rfl ?_
              exact ⟨_, _, _, _, _, _, _, _, _, rfl, L8, O6, by omega, by omega, by omega, R6, G36⟩
            · go_wp2
              refine bodyPost_ret (results_tmp2 rfl _ _ _) rfl ?_
              exact ⟨_, _, _, _, _, _, _, _, _, rfl, L7, O6, by omega, by omega, by omega, R6, G36⟩
          have t3B : (t == 3) = false := by simp [t3]
          clear t0 t1 t2 t3
          go_wp2
          refine bodyPost_ret (results_tmp2 rfl _ _ _) rfl ?_
          exact ⟨_, _, _, _, _, _, _, _, _, rfl, P5, O5, by omega, by omega, by omega, R5, G35⟩

/-- An order, drawn with a source. -/
def OrderR (lo r p : Nat) (w w' : World) (e : Ending) : Prop := ∃ (D : Option Addr) (q c : Nat) (od : List Int) (p' : Nat), e = .returned (.slice D q c) ∧ Own w' w.heap.size 3 D q c (ints .i64 od) ∧ q ≤ 9 ∧ p' ≤ p + 20 ∧ Rd w' lo r p' ∧ w.grownBy w' (some r)
set_option maxRecDepth 100000 in
set_option maxHeartbeats 8000000 in
theorem l12Order_any {lo r p m d : Nat} {B : Option Addr} {w : World} (h : Rd w lo r p) (hp : p ≤ 274877906944) (hm : m ≤ 31) :
    Calls Try.prog 57 #[.pointer (some ⟨r, 0, none⟩), .slice B m d] w fun e w' => OrderR lo r p w w' e := by
  obtain ⟨i0, hi, hz0, hz1, hz2⟩ := info_parts Try.infoInt
  have hrl := h.lt
  have hlo := h.1
  have E1 := lit_ownJ w
  have R1 := h.alloc (.cells #[] 3)
  have G1 : w.grownBy (w.alloc (.cells #[] 3)) (some r) := World.grownBy_alloc _ _ _
  go_enter Try.func57, Try.ntmps57
  go_wp2_with (fail)
  refine (pick_any R1 (by omega) (by omega)).mono ?_
  rintro e w2 ⟨v, rfl, hv, R2, G2⟩
  have hvb : 0 ≤ v ∧ v ≤ 7 := by unfold Picked at hv; omega
  obtain ⟨k0, rfl⟩ := Int.eq_ofNat_of_zero_le hvb.1
  have hk7 : k0 ≤ 7 := by omega
  clear hv hvb
  have O2 := E1.past hrl G2
  have G12 := gr_trans G1 G2
  obtain ⟨mx, hmx⟩ : ∃ mx : Int, max (m : Int) 1 = mx := ⟨_, rfl⟩
  have hmx2 : 1 ≤ mx ∧ mx ≤ 31 := by omega
  have HMX := Lib.hid hmx
  clear E1 R1 G1 G2
  go_wp2
  go_loopw [5, 6] (fun v i wr => ∃ (k : Nat) (D' : Option Addr) (q c' : Nat) (od : List Int) (p' : Nat), k + q = k0 ∧ i = .int .i64 (k : Int) ∧ v = .slice D' q c' ∧ Own wr w.heap.size 3 D' q c' (ints .i64 od) ∧ p' ≤ p + 1 + q ∧ Rd wr lo r p' ∧ w.grownBy wr (some r)) (fun _ i _ => (intOf i).toNat)
  case atStart => exact ⟨k0, _, 0, _, [], p + 1, by omega, rfl, rfl, O2, by omega, R2, G12⟩
  case round =>
    clear O2 R2 G12
    obtain ⟨k, A2, q2, c2, od, p2, hkq, rfl, rfl, O2, hp2, R2, G2⟩ := hrel
    have s2 := G2.size
    by_cases hk : 0 < k
    · have hkB : decide ((k : Int) > 0) = true := by simp; omega
      have hkC : decide (0 < (k : Int)) = true := by simp; omega
      go_wp2_with (fail)
      refine (pick_any R2 (by omega) (by omega)).mono ?_
      rintro e w4 ⟨z, rfl, hz, R4, G4⟩
      clear hz
      have O4 := O2.past hrl G4
      have G24 := gr_trans G2 G4
      have s4 := G24.size
      go_wp2_with (at_builtin; refine wpList_apps _ rfl (.tmp 14) (.tmp 20) 23 rfl w.heap.size 3 i0 (.int .i64 0) 8 Try.underlying23 hi hz0 hz1 hz2 rfl A2 q2 c2 _ rfl O4 1 1 #[.int .i64 z] rfl rfl (by simp [Value.oneCell']) (by decide) (by omega) (by decide) s4 ?_; intro g5 c5 w5 O5 G5 B5 _)
      have R5 := R4.grown G5 (own_far O4 hrl R4)
      have G25 := gr_new G24 G5 (own_ge O4)
      go_roundw
      case rel => exact ⟨k - 1, _, q2 + 1, _, od ++ [z], p2 + 1, by omega, by go_num, rfl, by rw [intsJ_app]; exact O5, by omega, R5, G25⟩
      case measure => simp [intOf]; omega
    · obtain rfl : k = 0 := by omega
      go_wp2_with (fail)
      refine (pick_any R2 (by omega) (by omega)).mono ?_
      rintro e w4 ⟨t, rfl, ht, R4, G4⟩
      clear ht
      have O4 := O2.past hrl G4
      have G24 := gr_trans G2 G4
      have s4 := G24.size
      by_cases t0 : t = 0
      · subst t0
        go_wp2_with (fail)
        refine (num_any (n := 2) (l := [-1, (m : Int)]) (R4.alloc _) (by omega) (Has.row #[.int .i64 (-1), .int .i64 (m : Int)] rfl rfl (by unfold maxLen; omega)) (fun ad ha => by injection ha with ha; subst ha; have := R4.lt; simp; omega) (by omega) (by omega)).mono ?_
        rintro e w6 ⟨z, rfl, hz, R6, G6⟩
        clear hz
        have O6 := (O4.bel (below_allocJ w4 (.cells #[.int .i64 (-1), .int .i64 (m : Int)] 3))).past hrl G6
        have G36 := gr_trans G24 (gr_alloc G6)
        have s6 := G36.size
        go_wp2_with (at_builtin; refine wpList_apps _ rfl (.tmp 25) (.tmp 31) 23 rfl w.heap.size 3 i0 (.int .i64 0) 8 Try.underlying23 hi hz0 hz1 hz2 rfl A2 q2 c2 _ rfl O6 1 1 #[.int .i64 z] rfl rfl (by simp [Value.oneCell']) (by decide) (by omega) (by decide) s6 ?_; intro g5 c5 w5 O5 G5 B5 _)
        have R5 := R6.grown G5 (own_far O6 hrl R6)
        have G25 := gr_new G36 G5 (own_ge O6)
        go_ret
        exact ⟨_, _, _, od ++ [z], _, rfl, by rw [intsJ_app]; exact O5, by omega, by omega, R5, G25⟩
      · have t0B : (t == 0) = false := by simp [t0]
        clear t0
        go_wp2
        go_ret
        exact ⟨_, _, _, _, _, rfl, O4, by omega, by omega, R4, G24⟩

/-- Weights and jobs, drawn. -/
def WJ (w w' : World) (e : Ending) : Prop := ∃ (A : Option Addr) (n c : Nat) (ws : List Int) (B : Option Addr) (m d : Nat) (js : List Duo), e = .returned (.tuple #[.slice A n c, .slice B m d]) ∧ Has w' A n (ints .i64 ws) ∧ HasD w' B m js ∧ n ≤ 5 ∧ m ≤ 31 ∧ Below w.heap.size w w'
theorem drawFairOrder_any {A : Option Addr} {n c : Nat} {zs : List Int} {w : World} (h : Has w A n (ints .u8 zs)) (hu : U8s zs) (hc : n ≤ c ∧ c ≤ maxLen) :
    Calls Try.prog 16 #[.slice A n c] w fun e w' => WJ w w' e := by
  go_enter Try.func16, Try.ntmps16
  go_wp2_with (fail)
  refine (open_any h hu hc).mono ?_
  rintro e w1 ⟨r, rfl, R1, B1⟩
  go_wp2_with (fail)
  refine (l12Jobs_any R1 (by omega)).mono ?_
  rintro e w2 ⟨A2, n2, c2, ws, B2, m2, d2, js, p2, rfl, O2, P2, h5, h31, _, R2, G2⟩
  go_wp2
  refine bodyPost_ret (results_tmp2 rfl _ _ _) rfl ?_
  exact ⟨_, _, _, ws, _, _, _, js, rfl, O2.has, P2.has, h5, h31, bel_read B1 R1 G2⟩
theorem drawStrictOrder_any {A : Option Addr} {n c : Nat} {zs : List Int} {w : World} (h : Has w A n (ints .u8 zs)) (hu : U8s zs) (hc : n ≤ c ∧ c ≤ maxLen) :
    Calls Try.prog 25 #[.slice A n c] w fun e w' => WJ w w' e := by
  go_enter Try.func25, Try.ntmps25
  go_wp2_with (fail)
  refine (open_any h hu hc).mono ?_
  rintro e w1 ⟨r, rfl, R1, B1⟩
  go_wp2_with (fail)
  refine (l12Jobs_any R1 (by omega)).mono ?_
  rintro e w2 ⟨A2, n2, c2, ws, B2, m2, d2, js, p2, rfl, O2, P2, h5, h31, _, R2, G2⟩
  go_wp2
  refine bodyPost_ret (results_tmp2 rfl _ _ _) rfl ?_
  exact ⟨_, _, _, ws, _, _, _, js, rfl, O2.has, P2.has, h5, h31, bel_read B1 R1 G2⟩
theorem drawServedBy_any {A : Option Addr} {n c : Nat} {zs : List Int} {w : World} (h : Has w A n (ints .u8 zs)) (hu : U8s zs) (hc : n ≤ c ∧ c ≤ maxLen) :
    Calls Try.prog 27 #[.slice A n c] w fun e w' => ∃ (A : Option Addr) (n c : Nat) (ws : List Int) (B : Option Addr) (m d : Nat) (js : List Duo) (D : Option Addr) (q c' : Nat) (od : List Int), e = .returned (.tuple #[.slice A n c, .slice B m d, .slice D q c']) ∧ Has w' A n (ints .i64 ws) ∧ HasD w' B m js ∧ Has w' D q (ints .i64 od) ∧ n ≤ 5 ∧ m ≤ 31 ∧ q ≤ 9 ∧ Below w.heap.size w w' := by
  go_enter Try.func27, Try.ntmps27
  go_wp2_with (fail)
  refine (open_any h hu hc).mono ?_
  rintro e w1 ⟨r, rfl, R1, B1⟩
  go_wp2_with (fail)
  refine (l12Jobs_any R1 (by omega)).mono ?_
  rintro e w2 ⟨A2, n2, c2, ws, B2, m2, d2, js, p2, rfl, O2, P2, h5, h31, hp2, R2, G2⟩
  have hrl := R1.lt
  go_wp2_with (fail)
  refine (l12Order_any R2 (by omega) h31).mono ?_
  rintro e w3 ⟨D3, q3, c3, od, p3, rfl, O3, hq3, _, R3, G3⟩
  go_wp2
  refine bodyPost_ret (results_tmp3 rfl _ _ _) rfl ?_
  exact ⟨_, _, _, ws, _, _, _, js, _, _, _, od, rfl, (O2.past hrl G3).has, (P2.past hrl G3).has, O3.has, h5, h31, hq3, bel_read B1 R1 (gr_trans G2 G3)⟩
set_option maxHeartbeats 2000000 in
theorem drawApartBound_any {A : Option Addr} {n c : Nat} {zs : List Int} {w : World} (h : Has w A n (ints .u8 zs)) (hu : U8s zs) (hc : n ≤ c ∧ c ≤ maxLen) :
    Calls Try.prog 30 #[.slice A n c] w fun e w' => ∃ (A : Option Addr) (n c : Nat) (ws : List Int) (a b : Int), e = .returned (.tuple #[.slice A n c, .int .i64 a, .int .i64 b]) ∧ Has w' A n (ints .i64 ws) ∧ n ≤ 5 ∧ Below w.heap.size w w' := by
  go_enter Try.func30, Try.ntmps30
  go_wp2_with (fail)
  refine (open_any h hu hc).mono ?_
  rintro e w1 ⟨r, rfl, R1, B1⟩
  go_wp2_with (fail)
  refine (l12Jobs_any R1 (by omega)).mono ?_
  rintro e w2 ⟨A2, n2, c2, ws, B2, m2, d2, js, p2, rfl, O2, P2, h5, h31, hp2, R2, G2⟩
  have hrl := R1.lt
  go_wp2_with (fail)
  refine (pick_any R2 (by omega) (by omega)).mono ?_
  rintro e w3 ⟨a, rfl, ha, R3, G3⟩
  have hab : 0 ≤ a ∧ a ≤ 7 := by unfold Picked at ha; omega
  go_wp2_with (fail)
  refine (pick_any R3 (by omega) (by omega)).mono ?_
  rintro e w4 ⟨b, rfl, hb, R4, G4⟩
  go_wp2
  refine bodyPost_ret (results_tmp3 rfl _ _ _) rfl ?_
  exact ⟨_, _, _, ws, _, _, rfl, ((O2.past hrl G3).past hrl G4).has, h5, bel_read B1 R1 (gr_trans (gr_trans G2 G3) G4)⟩
set_option maxHeartbeats 4000000 in
theorem drawWaitsBefore_any {A : Option Addr} {n c : Nat} {zs : List Int} {w : World} (h : Has w A n (ints .u8 zs)) (hu : U8s zs) (hc : n ≤ c ∧ c ≤ maxLen) :
    Calls Try.prog 32 #[.slice A n c] w fun e w' => ∃ (B : Option Addr) (m d : Nat) (js : List Duo) (D : Option Addr) (q c' : Nat) (od : List Int) (k : Int), e = .returned (.tuple #[.slice B m d, .slice D q c', .int .i64 k]) ∧ HasD w' B m js ∧ Has w' D q (ints .i64 od) ∧ q ≤ c' ∧ m ≤ 31 ∧ q ≤ 60 ∧ Below w.heap.size w w' := by
  go_enter Try.func32, Try.ntmps32
  go_wp2_with (fail)
  refine (open_any h hu hc).mono ?_
  rintro e w1 ⟨r, rfl, R1, B1⟩
  go_wp2_with (fail)
  refine (l12Jobs_any R1 (by omega)).mono ?_
  rintro e w2 ⟨A2, n2, c2, ws, B2, m2, d2, js, p2, rfl, O2, P2, h5, h31, hp2, R2, G2⟩
  have hrl := R1.lt
  go_wp2_with (fail)
  refine (pick_any R2 (by omega) (by omega)).mono ?_
  rintro e w3 ⟨t, rfl, ht, R3, G3⟩
  clear ht
  have O3 := O2.past hrl G3
  have P3 := P2.past hrl G3
  have G23 := gr_trans G2 G3
  by_cases t0 : t = 0
  · subst t0
    obtain ⟨F, hF⟩ : ∃ F, fairL ws js = F := ⟨_, rfl⟩
    have hFl : F.length ≤ 60 := by
      rw [← hF]
      by_cases hok : jobsOk ws js
      · rw [fair_len hok]; exact hok.2.2
      · unfold fairL; rw [if_neg hok]; simp
    go_wp2_with (fail)
    refine (specFairOrder_r O3.has P3.has (by omega) (by omega) hF).mono ?_
    rintro e w4 ⟨D4, q4, c4, rfl, O4, B4⟩
    have R4 := R3.bel B4
    have hq4 : q4 ≤ 60 := by have := O4.has.len; omega
    go_wp2_with (fail)
    refine (pick_any R4 (by omega) (by omega)).mono ?_
    rintro e w5 ⟨a, rfl, ha, R5, G5⟩
    have hab : 0 ≤ a ∧ a ≤ 40 := by unfold Picked at ha; omega
    clear ha
    go_wp2
    refine bodyPost_ret (results_tmp3 rfl _ _ _) rfl ?_
    exact ⟨_, _, _, js, _, _, _, F, _, rfl, ((P3.bel B4).past hrl G5).has, (O4.past (by have := R3.lt; omega) G5).has, O4.cap, h31, hq4, bel_read B1 R1 (gr_trans (gr_bel G23 B4) G5)⟩
  · have t0B : (t == 0) = false := by simp [t0]
    clear t0
    go_wp2_with (fail)
    refine (l12Order_any R3 (by omega) h31).mono ?_
    rintro e w4 ⟨D4, q4, c4, od, p4, rfl, O4, hq4, hp4, R4, G4⟩
    go_wp2_with (fail)
    refine (pick_any R4 (by omega) (by omega)).mono ?_
    rintro e w5 ⟨a, rfl, ha, R5, G5⟩
    have hab : 0 ≤ a ∧ a ≤ 40 := by unfold Picked at ha; omega
    clear ha
    go_wp2
    refine bodyPost_ret (results_tmp3 rfl _ _ _) rfl ?_
    exact ⟨_, _, _, js, _, _, _, od, _, rfl, ((P3.past hrl G4).past hrl G5).has, (O4.past (by have := R3.lt; omega) G5).has, O4.cap, h31, by omega, bel_read B1 R1 (gr_trans (gr_trans G23 G4) G5)⟩
end Go.Proofs.Ytpofkkenbepjpaa
