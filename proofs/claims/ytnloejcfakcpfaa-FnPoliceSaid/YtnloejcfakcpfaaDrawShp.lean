/-
  Chapter 14's draws: what is proved here is that a shaper and frames are drawn, in memory of their own, and that nothing that was there is written. No condition.
-/
import Derived.Test.YtnloejcfakcpfaaShpC
import Derived.WalkSmall
namespace Go.Proofs.Ytnloejcfakcpfaa
open Go.RowKit

theorem Try.infoPulseD : (Try.prog.info? 29).map (fun i => (i.zero, i.size, i.bytes)) = some (some (.agg #[.int .i64 0, .int .i64 0]), 2, 16) := by kernel_rfl
theorem OwnD.past {w w' : World} {e : TypeId} {lo r n c : Nat} {A : Option Addr} {hs : List Duo} (h : OwnD w lo e A n c hs) (hr : r < lo) (hg : w.grownBy w' (some r)) : OwnD w' lo e A n c hs :=
  World.ownsRow.kept h hg (by
    cases A with
    | none => exact .inl rfl
    | some a => exact .inr (by have := World.ownsRow.lt h a.block rfl; simp [Value.ownBlock]; omega))
theorem ownD_far {w w' : World} {lo lo' r p n c : Nat} {e : TypeId} {A : Option Addr} {hs : List Duo} (h : OwnD w lo' e A n c hs) (hr : r < lo') (R : Rd w' lo r p) : ∀ k, A.map (·.block) = some k → lo ≤ k ∧ k ≠ r := by
  intro k hk
  have h1 : (Value.slice A n c).ownBlock = some k := by cases A <;> simp_all [Value.ownBlock]
  have h2 := (World.ownsRow.lt h k h1).1
  have h3 := R.1
  exact ⟨by omega, by omega⟩
theorem ownD_ge {w : World} {lo' n c : Nat} {e : TypeId} {A : Option Addr} {hs : List Duo} (h : OwnD w lo' e A n c hs) : ∀ k, A.map (·.block) = some k → lo' ≤ k := by
  intro k hk
  have h1 : (Value.slice A n c).ownBlock = some k := by cases A <;> simp_all [Value.ownBlock]
  exact (World.ownsRow.lt h k h1).1
theorem flatD_set0 (hs : List Duo) (i : Nat) (h : Duo) (hi : hs[i]? = some h) (y : Int) : flatD (hs.set i (y, h.2)) = (flatD hs).set (i * 2) (.int .i64 y) := by
  induction hs generalizing i with
  | nil => rfl
  | cons e ds ih =>
    cases i with
    | zero => simp at hi; subst hi; simp [flatD]
    | succ i =>
      have e1 : (i + 1) * 2 = i * 2 + 1 + 1 := by omega
      rw [e1]
      simp [flatD, ih i (by simpa using hi)]
theorem OwnD.put0 {w : World} {e : TypeId} {lo n c g : Nat} {hs : List Duo} (h : OwnD w lo e (some ⟨g, 0, none⟩) n c hs) {i : Nat} {x : Duo} (hi : hs[i]? = some x) (y : Int) :
    OwnD (w.setCell ⟨g, i * 2, none⟩ (.int .i64 y)) lo e (some ⟨g, 0, none⟩) n c (hs.set i (y, x.2)) ∧ w.grownBy (w.setCell ⟨g, i * 2, none⟩ (.int .i64 y)) (some g) := by
  obtain ⟨q2, r2⟩ := World.ownsRow.stored h (i * 2) (.int .i64 y)
  refine ⟨?_, r2⟩
  unfold OwnD
  rw [flatD_set0 _ _ _ hi]
  exact q2

/-- 'out = append(out, Job{x, y})' onto a slice that the call made: the job lies in a new block, as the walk leaves it. -/
theorem wpList_appD {P : Program} {ops : Array Oper} {rest : List Oper} {o : Oper} {a : Act} {Q : Exit → Act → World → Prop} (w : World) (hgd : o.guard = none) (s x : Operand) (t : TypeId)
    (ho : o.op = .call { callee := .builtin .append, args := #[s, x], argTypes := #[t, t] })
    (lo : Nat) (e : TypeId) (i : TypeInfo) (z : Value) (bytes : Nat) (ht : P.underlying t = some (.slice e)) (hi : P.info? e = some i) (hz : i.zero = some z) (hsize : i.size = 2) (hby : i.bytes = bytes) (hzs : z.cells.size = 2)
    (A : Option Addr) (n c : Nat) (js : List Duo) (hs : a.eval s = .slice A n c) (hown : OwnD w lo e A n c js) (u v : Int) (c' : Nat) (hx : a.eval x = .slice (some ⟨w.heap.size, 0, none⟩) 1 c')
    (h63 : n ≤ 1000000) (hbytes : bytes ≤ 64) (hlo : lo ≤ w.heap.size)
    (h : ∀ g cap w', OwnD w' lo e (some ⟨g, 0, none⟩) (n + 1) cap (js ++ [(u, v)]) → w.grownBy w' (A.map (·.block)) → wpList P ops Q rest (a.put o.dst (.slice (some ⟨g, 0, none⟩) (n + 1) cap)) w') :
    wpList P ops Q (o :: rest) a (w.alloc (.cells #[.int .i64 u, .int .i64 v] e)) := by
  have hownA : (w.alloc (.cells #[.int .i64 u, .int .i64 v] e)).ownsRow lo e 2 (.slice A n c) n (flatD js) := World.ownsRow.alloc hown _
  have hb : (A.map (·.block)) = (Value.slice A n c).ownBlock := by cases A <;> rfl
  refine wpList_append_lies (w.alloc (.cells #[.int .i64 u, .int .i64 v] e)) hgd s x t ho lo e i z 2 bytes ht hi hz hsize hby hzs (by decide) _ n (flatD js) hs hownA ⟨w.heap.size, 0, none⟩ 1 c' [.int .i64 u, .int .i64 v] hx rfl ?_ (by simp [Value.oneCell']) (by decide) (by unfold maxLen; omega) ?_ (by simp; omega) _ rfl ?_
  · intro j y hy
    have hadd : (⟨w.heap.size, 0, none⟩ : Addr).add j = ⟨w.heap.size, j, none⟩ := by unfold Addr.add; split <;> simp_all
    rw [hadd, cell_of_row (w.alloc (.cells #[.int .i64 u, .int .i64 v] e)) w.heap.size j _ e (0, 0) (heap_alloc_new w _)]
    simpa using hy
  · calc (n + 1) * bytes ≤ 1000001 * 64 := Nat.mul_le_mul (by omega) hbytes
      _ ≤ 140737488355328 := by decide
  · intro g cap w' h2 h3 _ _
    have hg : w.grownBy w' (A.map (·.block)) := by
      rw [hb]
      exact ⟨h3.os, h3.tape, h3.output, Nat.le_trans (by simp) h3.size, fun k hk hne => (h3.block k (by simp; omega) hne).trans (Below.heap_alloc w _ k hk)⟩
    refine h g cap w' ?_ hg
    unfold OwnD; rw [flatD_app]; exact h2

theorem results_tmp4S {fn : Func} {t u v x : Tmp} (h : fn.results = #[.tmp t, .tmp u, .tmp v, .tmp x]) (tmps : Array Value) (P : Program) (w : World) :
    (results fn tmps).run P w = .ok (.tuple #[tmps.getD t undef, tmps.getD u undef, tmps.getD v undef, tmps.getD x undef]) w := by
  simp [results, h]
/-- A shaper and frames, drawn with a source. -/
def ShpR (lo r p : Nat) (w w' : World) (e : Ending) : Prop := ∃ (a b : Int) (B : Option Addr) (m d : Nat) (js : List Duo) (p' : Nat), e = .returned (.tuple #[.int .i64 a, .int .i64 b, .slice B m d]) ∧ OwnD w' w.heap.size 29 B m d js ∧ m ≤ 21 ∧ p' ≤ p + 100 ∧ Rd w' lo r p' ∧ w.grownBy w' (some r)

set_option maxRecDepth 100000 in
set_option maxHeartbeats 16000000 in
theorem l14Draw_any {lo r p : Nat} {w : World} (h : Rd w lo r p) (hp : p ≤ 274877906944) :
    Calls Try.prog 46 #[.pointer (some ⟨r, 0, none⟩)] w fun e w' => ShpR lo r p w w' e := by
  obtain ⟨j0, hji, jz0, jz1, jz2⟩ := info_partsD Try.infoPulseD
  have hrl := h.lt
  have hlo := h.1
  go_enter Try.func46, Try.ntmps46
  go_wp2_with (fail)
  refine (num_any (n := 5) (l := [1, 2, 5, 20, 3]) (h.alloc _) (by omega) (Has.row #[.int .i64 1, .int .i64 2, .int .i64 5, .int .i64 20, .int .i64 3] rfl rfl (by unfold maxLen; omega)) (fun ad ha => by injection ha with ha; subst ha; have := h.lt; simp; omega) (by omega) (by omega)).mono ?_
  rintro e w1 ⟨ra, rfl, hv, R1, G1⟩
  clear hv
  have G01 := gr_alloc G1
  have s1 := G01.size
  clear G1
  go_wp2_with (fail)
  refine (num_any (n := 6) (l := [10, 5, 50, 100, 1, 20]) (R1.alloc _) (by omega) (Has.row #[.int .i64 10, .int .i64 5, .int .i64 50, .int .i64 100, .int .i64 1, .int .i64 20] rfl rfl (by unfold maxLen; omega)) (fun ad ha => by injection ha with ha; subst ha; have := R1.lt; simp; omega) (by omega) (by omega)).mono ?_
  rintro e w2 ⟨bu, rfl, hv, R2, G2⟩
  clear hv
  have G02 := gr_trans G01 (gr_alloc G2)
  have s2 := G02.size
  clear G2 G01 R1
  have O2 : OwnD (w2.alloc (.cells #[] 29)) w.heap.size 29 (some ⟨w2.heap.size, 0, none⟩) 0 0 [] := World.ownsRow_lit w2 #[] 0 s2 (by unfold maxLen; omega) rfl
  have R3 := R2.alloc (.cells #[] 29)
  have G03 := gr_bel G02 (below_allocJ w2 (.cells #[] 29))
  go_wp2_with (fail)
  refine (pick_any R3 (by omega) (by omega)).mono ?_
  rintro e w4 ⟨at0, rfl, ha, R4, G4⟩
  have hab : 0 ≤ at0 ∧ at0 ≤ 4 := by unfold Picked at ha; omega
  clear ha
  have O4 := O2.past hrl G4
  have G04 := gr_trans G03 G4
  clear O2 R3 G03 G4 R2 G02
  go_wp2_with (fail)
  refine (num_any (n := 5) (l := [5, 9, 2, 0, 20]) (R4.alloc _) (by omega) (Has.row #[.int .i64 5, .int .i64 9, .int .i64 2, .int .i64 0, .int .i64 20] rfl rfl (by unfold maxLen; omega)) (fun ad ha => by injection ha with ha; subst ha; have := R4.lt; simp; omega) (by omega) (by omega)).mono ?_
  rintro e w5 ⟨v, rfl, hv, R5, G5⟩
  have hvb : 0 ≤ v ∧ v ≤ 20 := by simp at hv; omega
  obtain ⟨k1, rfl⟩ := Int.eq_ofNat_of_zero_le hvb.1
  have hk20 : k1 ≤ 20 := by omega
  clear hv hvb
  have O5 := (O4.bel (below_allocJ w4 (.cells #[.int .i64 5, .int .i64 9, .int .i64 2, .int .i64 0, .int .i64 20] 3))).past hrl G5
  have G05 := gr_trans G04 (gr_alloc G5)
  clear O4 R4 G04 G5
  go_wp2
  go_loopw [7, 8, 9] (fun v a i wr => ∃ (k : Nat) (B' : Option Addr) (m' d' : Nat) (js : List Duo) (x : Int) (p' : Nat), k + m' = k1 ∧ i = .int .i64 (k : Int) ∧ v = .slice B' m' d' ∧ a = .int .i64 x ∧ (0 ≤ x ∧ x ≤ 4 + 30 * (m' : Int)) ∧ OwnD wr w.heap.size 29 B' m' d' js ∧ p' ≤ p + 4 + 3 * m' ∧ Rd wr lo r p' ∧ w.grownBy wr (some r)) (fun _ _ i _ => (intOf i).toNat)
  case atStart => exact ⟨k1, _, 0, _, [], at0, _, by omega, rfl, rfl, rfl, by omega, O5, by omega, R5, G05⟩
  case round =>
    clear O5 R5 G05 s1 s2 hab
    obtain ⟨k, B3, m3, d3, js, x, p3, hkm, rfl, rfl, rfl, hxb, O3, hp3, R3, G3⟩ := hrel
    have s3 := G3.size
    by_cases hk : 0 < k
    · have hkB : decide ((k : Int) > 0) = true := by simp; omega
      have hkC : decide (0 < (k : Int)) = true := by simp; omega
      go_wp2_with (fail)
      refine (num_any (n := 3) (l := [5, 10, 50]) (R3.alloc _) (by omega) (Has.row #[.int .i64 5, .int .i64 10, .int .i64 50] rfl rfl (by unfold maxLen; omega)) (fun ad ha => by injection ha with ha; subst ha; have := R3.lt; simp; omega) (by omega) (by omega)).mono ?_
      rintro e w5 ⟨q, rfl, hq, R5, G5⟩
      have hqb : 5 ≤ q ∧ q ≤ 50 := by simp at hq; omega
      clear hq
      have O5 := (O3.bel (below_allocJ wr (.cells #[.int .i64 5, .int .i64 10, .int .i64 50] 3))).past hrl G5
      have G35 := gr_trans G3 (gr_alloc G5)
      clear O3 R3 G3 G5
      go_wp2_with (fail)
      refine (pick_any R5 (by omega) (by omega)).mono ?_
      rintro e w6 ⟨b, rfl, hb, R6, G6⟩
      have hbb : 0 ≤ b ∧ b ≤ 49 := by unfold Picked at hb; omega
      clear hb
      have O6 := O5.past hrl G6
      have G36 := gr_trans G35 G6
      have s6 := G36.size
      have wS : IntKind.i64.wrap (1 + b) = 1 + b := IntWalk.i64_in _ (by omega)
      clear O5 R5 G35 G6
      go_wp2_with (at_builtin; refine wpList_appD _ rfl (.tmp 26) (.tmp 35) 23 rfl w.heap.size 29 j0 (.agg #[.int .i64 0, .int .i64 0]) 16 Try.underlying23 hji jz0 jz1 jz2 rfl B3 m3 d3 js rfl O6 x (1 + b) 1 rfl (by omega) (by decide) s6 ?_; intro g7 c7 w7 O7 G7)
      have R7 := R6.grown G7 (ownD_far O6 hrl R6)
      have G37 := gr_new G36 G7 (ownD_ge O6)
      clear O6 R6 G36 G7
      refine (num_any (n := 6) (l := [0, 1, 2, 0, 7, 30]) (R7.alloc _) (by omega) (Has.row #[.int .i64 0, .int .i64 1, .int .i64 2, .int .i64 0, .int .i64 7, .int .i64 30] rfl rfl (by unfold maxLen; omega)) (fun ad ha => by injection ha with ha; subst ha; have := R7.lt; simp; omega) (by omega) (by omega)).mono ?_
      rintro e w8 ⟨z, rfl, hz, R8, G8⟩
      have hzb : 0 ≤ z ∧ z ≤ 30 := by simp at hz; omega
      clear hz
      have O8 := (O7.bel (below_allocJ w7 (.cells #[.int .i64 0, .int .i64 1, .int .i64 2, .int .i64 0, .int .i64 7, .int .i64 30] 3))).past hrl G8
      have G38 := gr_trans G37 (gr_alloc G8)
      have wT : IntKind.i64.wrap (x + z) = x + z := IntWalk.i64_in _ (by omega)
      clear O7 R7 G37 G8
      go_wp2
      go_roundw
      case rel => exact ⟨k - 1, _, m3 + 1, _, _, x + z, p3 + 1 + 1 + 1, by omega, by go_num, rfl, rfl, by omega, O8, by omega, R8, G38⟩
      case measure => simp [intOf]; omega
    · obtain rfl : k = 0 := by omega
      obtain rfl : m3 = k1 := by omega
      go_wp2_with (fail)
      refine (pick_any R3 (by omega) (by omega)).mono ?_
      rintro e w5 ⟨t, rfl, ht, R5, G5⟩
      clear ht
      have O5 := O3.past hrl G5
      have G35 := gr_trans G3 G5
      have s5 := G35.size
      clear O3 R3 G3 G5
      by_cases t0 : t = 0
      · subst t0
        go_wp2_with (fail)
        refine (num_any (n := 2) (l := [0, 21]) (R5.alloc _) (by omega) (Has.row #[.int .i64 0, .int .i64 21] rfl rfl (by unfold maxLen; omega)) (fun ad ha => by injection ha with ha; subst ha; have := R5.lt; simp; omega) (by omega) (by omega)).mono ?_
        rintro e w6 ⟨z, rfl, hz, R6, G6⟩
        clear hz
        have O6 := (O5.bel (below_allocJ w5 (.cells #[.int .i64 0, .int .i64 21] 3))).past hrl G6
        have G36 := gr_trans G35 (gr_alloc G6)
        go_wp2
        refine bodyPost_ret (results_tmp3 rfl _ _ _) rfl ?_
        exact ⟨_, _, _, _, _, _, _, rfl, O6, by omega, by omega, R6, G36⟩
      have t0B : (t == 0) = false := by simp [t0]
      by_cases t1 : t = 1
      · subst t1
        go_wp2_with (fail)
        refine (num_any (n := 2) (l := [0, 101]) (R5.alloc _) (by omega) (Has.row #[.int .i64 0, .int .i64 101] rfl rfl (by unfold maxLen; omega)) (fun ad ha => by injection ha with ha; subst ha; have := R5.lt; simp; omega) (by omega) (by omega)).mono ?_
        rintro e w6 ⟨z, rfl, hz, R6, G6⟩
        clear hz
        have O6 := (O5.bel (below_allocJ w5 (.cells #[.int .i64 0, .int .i64 101] 3))).past hrl G6
        have G36 := gr_trans G35 (gr_alloc G6)
        go_wp2
        refine bodyPost_ret (results_tmp3 rfl _ _ _) rfl ?_
        exact ⟨_, _, _, _, _, _, _, rfl, O6, by omega, by omega, R6, G36⟩
      have t1B : (t == 1) = false := by simp [t1]
      by_cases t2 : t = 2
      · subst t2
        go_wp2_with (at_builtin; refine wpList_appD _ rfl (.tmp 56) (.tmp 58) 23 rfl w.heap.size 29 j0 (.agg #[.int .i64 0, .int .i64 0]) 16 Try.underlying23 hji jz0 jz1 jz2 rfl B3 m3 d3 js rfl O5 0 1 1 rfl (by omega) (by decide) s5 ?_; intro g7 c7 w7 O7 G7)
        have R7 := R5.grown G7 (ownD_far O5 hrl R5)
        have G37 := gr_new G35 G7 (ownD_ge O5)
        refine bodyPost_ret (results_tmp3 rfl _ _ _) rfl ?_
        exact ⟨_, _, _, _, _, _, _, rfl, O7, by omega, by omega, R7, G37⟩
      have t2B : (t == 2) = false := by simp [t2]
      by_cases t3 : t = 3
      · subst t3
        go_wp2_with (fail)
        refine (num_any (n := 2) (l := [0, 51]) (R5.alloc _) (by omega) (Has.row #[.int .i64 0, .int .i64 51] rfl rfl (by unfold maxLen; omega)) (fun ad ha => by injection ha with ha; subst ha; have := R5.lt; simp; omega) (by omega) (by omega)).mono ?_
        rintro e w6 ⟨z, rfl, hz, R6, G6⟩
        clear hz
        have O6 := (O5.bel (below_allocJ w5 (.cells #[.int .i64 0, .int .i64 51] 3))).past hrl G6
        have G36 := gr_trans G35 (gr_alloc G6)
        have s6 := G36.size
        go_wp2_with (at_builtin; refine wpList_appD _ rfl (.tmp 62) (.tmp 68) 23 rfl w.heap.size 29 j0 (.agg #[.int .i64 0, .int .i64 0]) 16 Try.underlying23 hji jz0 jz1 jz2 rfl B3 m3 d3 js rfl O6 x z 1 rfl (by omega) (by decide) s6 ?_; intro g7 c7 w7 O7 G7)
        have R7 := R6.grown G7 (ownD_far O6 hrl R6)
        have G37 := gr_new G36 G7 (ownD_ge O6)
        refine bodyPost_ret (results_tmp3 rfl _ _ _) rfl ?_
        exact ⟨_, _, _, _, _, _, _, rfl, O7, by omega, by omega, R7, G37⟩
      have t3B : (t == 3) = false := by simp [t3]
      by_cases t4 : t = 4
      · subst t4
        go_wp2_with (at_builtin; refine wpList_appD _ rfl (.tmp 72) (.tmp 74) 23 rfl w.heap.size 29 j0 (.agg #[.int .i64 0, .int .i64 0]) 16 Try.underlying23 hji jz0 jz1 jz2 rfl B3 m3 d3 js rfl O5 2001 1 1 rfl (by omega) (by decide) s5 ?_; intro g7 c7 w7 O7 G7)
        have R7 := R5.grown G7 (ownD_far O5 hrl R5)
        have G37 := gr_new G35 G7 (ownD_ge O5)
        refine bodyPost_ret (results_tmp3 rfl _ _ _) rfl ?_
        exact ⟨_, _, _, _, _, _, _, rfl, O7, by omega, by omega, R7, G37⟩
      have t4B : (t == 4) = false := by simp [t4]
      clear t0 t1 t2 t3 t4
      go_wp2
      refine bodyPost_ret (results_tmp3 rfl _ _ _) rfl ?_
      exact ⟨_, _, _, _, _, _, _, rfl, O5, by omega, by omega, R5, G35⟩
/-- A shaper and frames. -/
def SF (w w' : World) (e : Ending) : Prop := ∃ (a b : Int) (B : Option Addr) (m d : Nat) (js : List Duo), e = .returned (.tuple #[.int .i64 a, .int .i64 b, .slice B m d]) ∧ HasD w' B m js ∧ m ≤ d ∧ m ≤ 21 ∧ Below w.heap.size w w'
set_option maxHeartbeats 2000000 in
theorem drawPolicePulses_any {A : Option Addr} {n c : Nat} {zs : List Int} {w : World} (h : Has w A n (ints .u8 zs)) (hu : U8s zs) (hc : n ≤ c ∧ c ≤ maxLen) :
    Calls Try.prog 21 #[.slice A n c] w fun e w' => SF w w' e := by
  go_enter Try.func21, Try.ntmps21
  go_wp2_with (fail)
  refine (open_any h hu hc).mono ?_
  rintro e w1 ⟨r, rfl, R1, B1⟩
  go_wp2_with (fail)
  refine (l14Draw_any R1 (by omega)).mono ?_
  rintro e w2 ⟨a, b, B2, m2, d2, js, p2, rfl, O2, h21, hp2, R2, G2⟩
  go_wp2
  refine bodyPost_ret (results_tmp3 rfl _ _ _) rfl ?_
  exact ⟨_, _, _, _, _, js, rfl, O2.has, O2.cap, h21, bel_read B1 R1 G2⟩
set_option maxHeartbeats 2000000 in
theorem drawShapePulses_any {A : Option Addr} {n c : Nat} {zs : List Int} {w : World} (h : Has w A n (ints .u8 zs)) (hu : U8s zs) (hc : n ≤ c ∧ c ≤ maxLen) :
    Calls Try.prog 24 #[.slice A n c] w fun e w' => SF w w' e := by
  go_enter Try.func24, Try.ntmps24
  go_wp2_with (fail)
  refine (open_any h hu hc).mono ?_
  rintro e w1 ⟨r, rfl, R1, B1⟩
  go_wp2_with (fail)
  refine (l14Draw_any R1 (by omega)).mono ?_
  rintro e w2 ⟨a, b, B2, m2, d2, js, p2, rfl, O2, h21, hp2, R2, G2⟩
  go_wp2
  refine bodyPost_ret (results_tmp3 rfl _ _ _) rfl ?_
  exact ⟨_, _, _, _, _, js, rfl, O2.has, O2.cap, h21, bel_read B1 R1 G2⟩
theorem drawLeastBurst_any {A : Option Addr} {n c : Nat} {zs : List Int} {w : World} (h : Has w A n (ints .u8 zs)) (hu : U8s zs) (hc : n ≤ c ∧ c ≤ maxLen) :
    Calls Try.prog 32 #[.slice A n c] w fun e w' => ∃ (a : Int) (B : Option Addr) (m d : Nat) (js : List Duo), e = .returned (.tuple #[.int .i64 a, .slice B m d]) ∧ HasD w' B m js ∧ m ≤ 21 ∧ Below w.heap.size w w' := by
  go_enter Try.func32, Try.ntmps32
  go_wp2_with (fail)
  refine (open_any h hu hc).mono ?_
  rintro e w1 ⟨r, rfl, R1, B1⟩
  go_wp2_with (fail)
  refine (l14Draw_any R1 (by omega)).mono ?_
  rintro e w2 ⟨a, b, B2, m2, d2, js, p2, rfl, O2, h21, hp2, R2, G2⟩
  go_wp2
  refine bodyPost_ret (results_tmp2 rfl _ _ _) rfl ?_
  exact ⟨_, _, _, _, js, rfl, O2.has, h21, bel_read B1 R1 G2⟩
set_option maxHeartbeats 2000000 in
theorem drawTokensAt_any {A : Option Addr} {n c : Nat} {zs : List Int} {w : World} (h : Has w A n (ints .u8 zs)) (hu : U8s zs) (hc : n ≤ c ∧ c ≤ maxLen) :
    Calls Try.prog 29 #[.slice A n c] w fun e w' => ∃ (a b : Int) (B : Option Addr) (m d : Nat) (js : List Duo) (t : Int), e = .returned (.tuple #[.int .i64 a, .int .i64 b, .slice B m d, .int .i64 t]) ∧ HasD w' B m js ∧ m ≤ 21 ∧ (-1 ≤ t ∧ t ≤ 2001) ∧ Below w.heap.size w w' := by
  go_enter Try.func29, Try.ntmps29
  go_wp2_with (fail)
  refine (open_any h hu hc).mono ?_
  rintro e w1 ⟨r, rfl, R1, B1⟩
  go_wp2_with (fail)
  refine (l14Draw_any R1 (by omega)).mono ?_
  rintro e w2 ⟨a, b, B2, m2, d2, js, p2, rfl, O2, h21, hp2, R2, G2⟩
  go_wp2_with (fail)
  refine (num_any (n := 7) (l := [0, 3, 10, 40, 2000, -1, 2001]) (R2.alloc _) (by omega) (Has.row #[.int .i64 0, .int .i64 3, .int .i64 10, .int .i64 40, .int .i64 2000, .int .i64 (-1), .int .i64 2001] rfl rfl (by unfold maxLen; omega)) (fun ad ha => by injection ha with ha; subst ha; have := R2.lt; simp; omega) (by omega) (by omega)).mono ?_
  rintro e w3 ⟨t, rfl, ht, R3, G3⟩
  have htb : -1 ≤ t ∧ t ≤ 2001 := by simp at ht; omega
  clear ht
  have O3 := (O2.bel (below_allocJ w2 (.cells #[.int .i64 0, .int .i64 3, .int .i64 10, .int .i64 40, .int .i64 2000, .int .i64 (-1), .int .i64 2001] 3))).past (by have := R1.lt; omega) G3
  go_wp2
  refine bodyPost_ret (results_tmp4S rfl _ _ _) rfl ?_
  exact ⟨_, _, _, _, _, js, t, rfl, O3.has, h21, htb, bel_read B1 R1 (gr_trans G2 (gr_alloc G3))⟩
theorem shpI_len {r b : Int} {hs : List Duo} : (shpI r b hs).length ≤ hs.length := by
  unfold shpI
  split
  · rw [shpTo_len]; exact Nat.le_refl _
  · simp
theorem shpI_i64 {r b : Int} {hs : List Duo} : ∀ z ∈ shpI r b hs, 0 ≤ z ∧ z ≤ 5000 := by
  unfold shpI
  split
  · rename_i h
    intro z hz
    obtain ⟨i, hi, rfl⟩ := List.mem_map.1 hz
    exact shT_bound h.1 h.2 (by simpa using hi)
  · intro z hz; cases hz
set_option maxHeartbeats 4000000 in
theorem drawConforms_any {A : Option Addr} {n c : Nat} {zs : List Int} {w : World} (h : Has w A n (ints .u8 zs)) (hu : U8s zs) (hc : n ≤ c ∧ c ≤ maxLen) :
    Calls Try.prog 16 #[.slice A n c] w fun e w' => SF w w' e := by
  go_enter Try.func16, Try.ntmps16
  go_wp2_with (fail)
  refine (open_any h hu hc).mono ?_
  rintro e w1 ⟨r, rfl, R1, B1⟩
  go_wp2_with (fail)
  refine (l14Draw_any R1 (by omega)).mono ?_
  rintro e w2 ⟨a, b, B2, m2, d2, js, p2, rfl, O2, h21, hp2, R2, G2⟩
  have hr1 := R1.lt
  go_wp2_with (fail)
  refine (pick_any R2 (by omega) (by omega)).mono ?_
  rintro e w3 ⟨t, rfl, ht, R3, G3⟩
  clear ht
  have O3 := O2.past hr1 G3
  have G23 := gr_trans G2 G3
  clear O2 R2 G2 G3
  by_cases t0 : t = 0
  · subst t0
    obtain ⟨L, hL⟩ : ∃ L, shpI a b js = L := ⟨_, rfl⟩
    have hLl : L.length ≤ js.length := by rw [← hL]; exact shpI_len
    have hLb : ∀ z ∈ L, 0 ≤ z ∧ z ≤ 5000 := by rw [← hL]; exact shpI_i64
    have C := Lib.hid (specShapePulses_r (c := d2) O3.has (by omega) hL)
    clear hL
    go_wp2_with (fail)
    refine C.out.mono ?_
    rintro e w4 ⟨A4, n4, c4, rfl, O4, B4⟩
    have P4 := O3.bel B4
    have R4 := R3.bel B4
    have G4 := gr_bel G23 B4
    have hn4 : n4 ≤ m2 := by have := O4.has.len; have := O3.len; omega
    have HB := Lib.hid hLb
    have HG := Lib.hid (show ∀ g, B2 = some ⟨g, 0, none⟩ → g < w3.heap.size ∧ w1.heap.size ≤ g from fun g hg => by subst hg; have := World.ownsRow.lt O3 g rfl; omega)
    clear hLb hLl O3 G23 R3 B4
    go_wp2
    go_loopw [10] (fun i wr => ∃ (k : Nat) (js' : List Duo), k ≤ n4 ∧ i = .int .i64 (k : Int) ∧ OwnD wr w1.heap.size 29 B2 m2 d2 js' ∧ Own wr w3.heap.size 3 A4 n4 c4 (ints .i64 L) ∧ Rd wr w.heap.size r (p2 + 1) ∧ w1.grownBy wr (some r)) (fun i _ => n4 - (intOf i).toNat)
    case atStart => exact ⟨0, js, Nat.zero_le _, rfl, P4, O4, R4, G4⟩
    case round =>
      clear P4 O4 R4 G4
      obtain ⟨k, js', hk, rfl, P, O, R, G⟩ := hrel
      by_cases hlt : k < n4
      · have hltB : decide ((k : Int) < (n4 : Int)) = true := by simp; omega
        obtain ⟨g, cap, hv, hg0, hg1⟩ := World.ownsRow.form P (by omega)
        injection hv with hA _ hcap
        subst hA hcap
        have hg2 := HG.out g rfl
        obtain ⟨q, hq, c0, c1⟩ := P.cells (i := k) (by omega)
        have f1 : ∀ j, wr.frozen? ⟨g, j, none⟩ = false := World.ownsRow.frozenAt P
        obtain ⟨bb, o, z, hA4, hbl, hx, hc4⟩ := O.has.at_ hlt
        have hzb := HB.out z (List.mem_of_getElem? hx)
        obtain ⟨y, hy⟩ : ∃ y, min z 2000 = y := ⟨_, rfl⟩
        obtain ⟨P2, GP⟩ := P.put0 hq y
        have O2 := O.grown GP (fun a ha he => by injection he with he; subst ha; have := O.block.1; omega)
        have R2 := R.grown GP (fun k hk => by injection hk with hk; have := R1.1; omega)
        have G2 := gr_new G GP (fun j hj => by injection hj with hj; omega)
        subst hA4
        clear hx hq P O R G GP hzb
        go_wp2
        go_roundw
        case rel => exact ⟨k + 1, _, by omega, by go_num, P2, O2, R2, G2⟩
        case measure => simp [intOf]; omega
      · have hltB : decide ((k : Int) < (n4 : Int)) = false := by simp; omega
        obtain rfl : k = n4 := by omega
        go_wp2
        refine bodyPost_ret (results_tmp3 rfl _ _ _) rfl ?_
        exact ⟨_, _, _, _, _, js', rfl, P.has, P.cap, h21, bel_read B1 R1 G⟩
  · have t0B : (t == 0) = false := by simp [t0]
    clear t0
    go_wp2
    refine bodyPost_ret (results_tmp3 rfl _ _ _) rfl ?_
    exact ⟨_, _, _, _, _, js, rfl, O3.has, O3.cap, h21, bel_read B1 R1 G23⟩
end Go.Proofs.Ytnloejcfakcpfaa
