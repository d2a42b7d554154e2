/-
  Chapter 15's draws: what is proved here is what is drawn, in memory of its own, and that nothing that was there is written. No condition.
-/
import Derived.Test.YtmifhkhanjiklaaTimB
import Derived.Test.YtmifhkhanjiklaaDraw1
import Derived.WalkSmall
import Derived.Lib.SliceRun
namespace Go.Proofs.Ytmifhkhanjiklaa
open Go.RowKit

theorem gr_low {w w' w'' : World} {row : Option Nat} (h : w.grownBy w' row) (k : Below w.heap.size w' w'') : w.grownBy w'' row :=
  ⟨k.os.trans h.os, k.tape.trans h.tape, k.output.trans h.output, Nat.le_trans h.size k.size, fun i hi hne => (k.block i hi).trans (h.block i hi hne)⟩
theorem set_low {w w' : World} {B i : Nat} {v : Value} (hB : w.heap.size ≤ B) : Below w.heap.size w' (w'.setCell ⟨B, i, none⟩ v) := Below.setCell (Below.refl _ _) hB v
theorem set_grown15 (w : World) (B k : Nat) (v : Value) : w.grownBy (w.setCell ⟨B, k, none⟩ v) (some B) :=
  ⟨rfl, rfl, rfl, by simp, fun i _ hi => heap_setCell_other w ⟨B, k, none⟩ i v (fun e => hi (by simp [e]))⟩
theorem rd_set {w : World} {lo r p B i : Nat} {v : Value} (h : Rd w lo r p) (hB : r < B) : Rd (w.setCell ⟨B, i, none⟩ v) lo r p :=
  h.grown (set_grown15 w B i v) (fun k hk => by injection hk with hk; have := h.1; omega)
theorem results_tmp5T {fn : Func} {t u v x y : Tmp} (h : fn.results = #[.tmp t, .tmp u, .tmp v, .tmp x, .tmp y]) (tmps : Array Value) (P : Program) (w : World) :
    (results fn tmps).run P w = .ok (.tuple #[tmps.getD t undef, tmps.getD u undef, tmps.getD v undef, tmps.getD x undef, tmps.getD y undef]) w := by
  simp [results, h]
theorem OwnD.past15 {w w' : World} {e : TypeId} {lo r n c : Nat} {A : Option Addr} {hs : List Duo} (h : OwnD w lo e A n c hs) (hr : r < lo) (hg : w.grownBy w' (some r)) : OwnD w' lo e A n c hs :=
  World.ownsRow.kept h hg (by
    cases A with
    | none => exact .inl rfl
    | some a => exact .inr (by have := World.ownsRow.lt h a.block rfl; simp [Value.ownBlock]; omega))
theorem OwnQ.past15 {w w' : World} {e : TypeId} {lo r n c : Nat} {A : Option Addr} {hs : List Quad} (h : OwnQ w lo e A n c hs) (hr : r < lo) (hg : w.grownBy w' (some r)) : OwnQ w' lo e A n c hs :=
  World.ownsRow.kept h hg (by
    cases A with
    | none => exact .inl rfl
    | some a => exact .inr (by have := World.ownsRow.lt h a.block rfl; simp [Value.ownBlock]; omega))
theorem row_far {w w' : World} {e : TypeId} {lo lo' r p sz n c : Nat} {A : Option Addr} {xs : List Value} (h : w.ownsRow lo' e sz (.slice A n c) n xs) (hr : r < lo') (R : Rd w' lo r p) : ∀ k, A.map (·.block) = some k → lo ≤ k ∧ k ≠ r := by
  intro k hk
  have h1 : (Value.slice A n c).ownBlock = some k := by cases A <;> simp_all [Value.ownBlock]
  have h2 := (World.ownsRow.lt h k h1).1
  have h3 := R.1
  exact ⟨by omega, by omega⟩
theorem row_ge {w : World} {e : TypeId} {lo' sz n c : Nat} {A : Option Addr} {xs : List Value} (h : w.ownsRow lo' e sz (.slice A n c) n xs) : ∀ k, A.map (·.block) = some k → lo' ≤ k := by
  intro k hk
  have h1 : (Value.slice A n c).ownBlock = some k := by cases A <;> simp_all [Value.ownBlock]
  exact (World.ownsRow.lt h k h1).1
/-- 'out = append(out, row)' onto rows of two that the call made: the row lies in a new block. -/
theorem wpList_appD15 {P : Program} {ops : Array Oper} {rest : List Oper} {o : Oper} {a : Act} {Q : Exit → Act → World → Prop} (w : World) (hgd : o.guard = none) (s x : Operand) (t : TypeId)
    (ho : o.op = .call { callee := .builtin .append, args := #[s, x], argTypes := #[t, t] })
    (lo : Nat) (e : TypeId) (i : TypeInfo) (z : Value) (bytes : Nat) (ht : P.underlying t = some (.slice e)) (hi : P.info? e = some i) (hz : i.zero = some z) (hsize : i.size = 2) (hby : i.bytes = bytes) (hzs : z.cells.size = 2)
    (A : Option Addr) (n c : Nat) (js : List Duo) (hs : a.eval s = .slice A n c) (hown : OwnD w lo e A n c js) (u v : Int) (c' : Nat) (hx : a.eval x = .slice (some ⟨w.heap.size, 0, none⟩) 1 c')
    (h63 : n ≤ 1000000) (hbytes : bytes ≤ 64) (hlo : lo ≤ w.heap.size)
    (h : ∀ g cap w', OwnD w' lo e (some ⟨g, 0, none⟩) (n + 1) cap (js ++ [(u, v)]) → w.grownBy w' (A.map (·.block)) → wpList P ops Q rest (a.put o.dst (.slice (some ⟨g, 0, none⟩) (n + 1) cap)) w') :
    wpList P ops Q (o :: rest) a (w.alloc (.cells #[.int .i64 u, .int .i64 v] e)) := by
  have hownA : (w.alloc (.cells #[.int .i64 u, .int .i64 v] e)).ownsRow lo e 2 (.slice A n c) n (flatD js) := World.ownsRow.alloc hown _
  have hb : (A.map (·.block)) = (Value.slice A n c).ownBlock := by cases A <;> rfl
  refine wpList_append_lies (w.alloc (.cells #[.int .i64 u, .int .i64 v] e)) hgd s x t ho lo e i z 2 bytes ht hi hz hsize hby hzs (by decide) _ n (flatD js) hs hownA ⟨w.heap.size, 0, none⟩ 1 c' [.int .i64 u, .int .i64 v] hx rfl ?_ (by simp [Value.oneCell']) (by omega) (by unfold maxLen; omega) ?_ (Nat.le_trans hlo (by simp)) _ rfl ?_
  · intro j y hy
    have hadd : (⟨w.heap.size, 0, none⟩ : Addr).add j = ⟨w.heap.size, j, none⟩ := by unfold Addr.add; split <;> simp_all
    rw [hadd, cell_of_row (w.alloc (.cells #[.int .i64 u, .int .i64 v] e)) w.heap.size j _ e (0, 0) (heap_alloc_new w _)]
    simpa using hy
  · calc (n + 1) * bytes ≤ 1000001 * 64 := Nat.mul_le_mul (by omega) hbytes
      _ ≤ 140737488355328 := by decide
  · intro g cap w' h2 h3 _ _
    have hg : w.grownBy w' (A.map (·.block)) := by
      rw [hb]
      exact ⟨h3.os, h3.tape, h3.output, Nat.le_trans (by simp) h3.size, fun k hk hne => (h3.block k (by simp; omega) hne).trans (Below.heap_alloc w _ k hk)⟩
    refine h g cap w' ?_ hg
    unfold OwnD; rw [flatD_app]; exact h2
/-- The same of rows of four. -/
theorem wpList_appQ15 {P : Program} {ops : Array Oper} {rest : List Oper} {o : Oper} {a : Act} {Q : Exit → Act → World → Prop} (w : World) (hgd : o.guard = none) (s x : Operand) (t : TypeId)
    (ho : o.op = .call { callee := .builtin .append, args := #[s, x], argTypes := #[t, t] })
    (lo : Nat) (e : TypeId) (i : TypeInfo) (z : Value) (bytes : Nat) (ht : P.underlying t = some (.slice e)) (hi : P.info? e = some i) (hz : i.zero = some z) (hsize : i.size = 4) (hby : i.bytes = bytes) (hzs : z.cells.size = 4)
    (A : Option Addr) (n c : Nat) (js : List Quad) (hs : a.eval s = .slice A n c) (hown : OwnQ w lo e A n c js) (u v q k : Int) (c' : Nat) (hx : a.eval x = .slice (some ⟨w.heap.size, 0, none⟩) 1 c')
    (h63 : n ≤ 1000000) (hbytes : bytes ≤ 64) (hlo : lo ≤ w.heap.size)
    (h : ∀ g cap w', OwnQ w' lo e (some ⟨g, 0, none⟩) (n + 1) cap (js ++ [(u, v, q, k)]) → w.grownBy w' (A.map (·.block)) → wpList P ops Q rest (a.put o.dst (.slice (some ⟨g, 0, none⟩) (n + 1) cap)) w') :
    wpList P ops Q (o :: rest) a (w.alloc (.cells #[.int .i64 u, .int .i64 v, .int .i64 q, .int .i64 k] e)) := by
  have hownA : (w.alloc (.cells #[.int .i64 u, .int .i64 v, .int .i64 q, .int .i64 k] e)).ownsRow lo e 4 (.slice A n c) n (flatQ js) := World.ownsRow.alloc hown _
  have hb : (A.map (·.block)) = (Value.slice A n c).ownBlock := by cases A <;> rfl
  refine wpList_append_lies (w.alloc (.cells #[.int .i64 u, .int .i64 v, .int .i64 q, .int .i64 k] e)) hgd s x t ho lo e i z 4 bytes ht hi hz hsize hby hzs (by decide) _ n (flatQ js) hs hownA ⟨w.heap.size, 0, none⟩ 1 c' [.int .i64 u, .int .i64 v, .int .i64 q, .int .i64 k] hx rfl ?_ (by simp [Value.oneCell']) (by omega) (by unfold maxLen; omega) ?_ (Nat.le_trans hlo (by simp)) _ rfl ?_
  · intro j y hy
    have hadd : (⟨w.heap.size, 0, none⟩ : Addr).add j = ⟨w.heap.size, j, none⟩ := by unfold Addr.add; split <;> simp_all
    rw [hadd, cell_of_row (w.alloc (.cells #[.int .i64 u, .int .i64 v, .int .i64 q, .int .i64 k] e)) w.heap.size j _ e (0, 0) (heap_alloc_new w _)]
    simpa using hy
  · calc (n + 1) * bytes ≤ 1000001 * 64 := Nat.mul_le_mul (by omega) hbytes
      _ ≤ 140737488355328 := by decide
  · intro g cap w' h2 h3 _ _
    have hg : w.grownBy w' (A.map (·.block)) := by
      rw [hb]
      exact ⟨h3.os, h3.tape, h3.output, Nat.le_trans (by simp) h3.size, fun k hk hne => (h3.block k (by simp; omega) hne).trans (Below.heap_alloc w _ k hk)⟩
    refine h g cap w' ?_ hg
    unfold OwnQ; rw [flatQ_app]; exact h2
theorem Try.infoExch : (Try.prog.info? 26).map (fun i => (i.zero, i.size, i.bytes)) = some (some (.agg #[.int .i64 0, .int .i64 0, .int .i64 0, .int .i64 0]), 4, 32) := by kernel_rfl
theorem Try.infoSpan : (Try.prog.info? 30).map (fun i => (i.zero, i.size, i.bytes)) = some (some (.agg #[.int .i64 0, .int .i64 0]), 2, 16) := by kernel_rfl
set_option maxRecDepth 100000 in
set_option maxHeartbeats 16000000 in
theorem l15Draw_any {lo r p : Nat} {w : World} (h : Rd w lo r p) (hp : p ≤ 274877906944) :
    Calls Try.prog 56 #[.pointer (some ⟨r, 0, none⟩)] w fun e w' => ∃ (a b c d : Int) (p' : Nat), e = .returned (.agg #[.int .i64 a, .int .i64 b, .int .i64 c, .int .i64 d]) ∧ p' ≤ p + 7 ∧ Rd w' lo r p' ∧ w.grownBy w' (some r) := by
  have hrl := h.lt
  obtain ⟨W0, hW0⟩ : ∃ W0, w.alloc (.cells #[.int .i64 0, .int .i64 0, .int .i64 0, .int .i64 0] 26) = W0 := ⟨_, rfl⟩
  have K0 : QRow W0 w.heap.size 26 0 0 0 0 := hW0 ▸ qRow_alloc w _ 0 0 0 0
  have R0 : Rd W0 lo r p := hW0 ▸ h.alloc _
  have G0 : w.grownBy W0 (some r) := hW0 ▸ World.grownBy_alloc _ _ _
  have hne : (some r : Option Nat) ≠ some w.heap.size := fun e => by injection e with e; omega
  go_enter Try.func56, Try.ntmps56
  go_wp2_with (fail)
  refine (num_any (n := 6) (l := [0, 5, -5, 300, -300, 70000]) (R0.alloc _) (by omega) (Has.row #[.int .i64 0, .int .i64 5, .int .i64 (-5), .int .i64 300, .int .i64 (-300), .int .i64 70000] rfl rfl (by unfold maxLen; omega)) (fun ad ha => by injection ha with ha; subst ha; have := R0.lt; simp; omega) (by omega) (by omega)).mono ?_
  rintro e w1 ⟨v1, rfl, hv1, R1, G1⟩
  clear hv1
  have GA1 := gr_alloc G1
  have K1 := K0.grown GA1 hne
  have H1 := gr_trans G0 GA1
  clear G1 GA1 K0 G0 R0 hW0
  go_wp2_with (fail)
  refine (pick_any R1 (by omega) (by omega)).mono ?_
  rintro e w2 ⟨v2, rfl, hpv2, R2, G2⟩
  clear hpv2
  have K2 := K1.grown G2 hne
  have H2 := gr_trans H1 G2
  clear R1 K1 G2 H1
  go_wp2_with (fail)
  refine (pick_any R2 (by omega) (by omega)).mono ?_
  rintro e w3 ⟨v3, rfl, hpv3, R3, G3⟩
  clear hpv3
  have K3 := K2.grown G3 hne
  have H3 := gr_trans H2 G3
  clear R2 K2 G3 H2
  go_wp2_with (fail)
  refine (pick_any R3 (by omega) (by omega)).mono ?_
  rintro e w4 ⟨v4, rfl, hpv4, R4, G4⟩
  clear hpv4
  have K4 := K3.grown G4 hne
  have H4 := gr_trans H3 G4
  clear R3 K3 G4 H3
  go_wp2_with (fail)
  refine (num_any (n := 4) (l := [0, 100, 5000, -700]) (R4.alloc _) (by omega) (Has.row #[.int .i64 0, .int .i64 100, .int .i64 5000, .int .i64 (-700)] rfl rfl (by unfold maxLen; omega)) (fun ad ha => by injection ha with ha; subst ha; have := R4.lt; simp; omega) (by omega) (by omega)).mono ?_
  rintro e w5 ⟨v5, rfl, hv5, R5, G5⟩
  clear hv5
  have GA5 := gr_alloc G5
  have K5 := K4.grown GA5 hne
  have H5 := gr_trans H4 GA5
  clear R4 K4 G5 GA5 H4
  obtain ⟨⟨x, y, z, u⟩, hx⟩ : ∃ q, talkI v1 v2 v3 v4 v5 = q := ⟨_, rfl⟩
  obtain ⟨ok, hok⟩ : ∃ b, decide (talkOk v1 v2 v3 v4 v5) = b := ⟨_, rfl⟩
  have CT := Lib.hid (specTalkTimes_r (w := w5) hx hok)
  clear hx hok
  go_wp2_with (fail)
  refine CT.out.mono ?_
  rintro e w6 ⟨rfl, B6⟩
  have R6 := R5.bel B6
  have K6 := K5.bel B6
  have H6 := gr_bel H5 B6
  have s6 := H6.size
  obtain ⟨W7, hW7⟩ : ∃ W7, w6.alloc (.cells #[.int .i64 x, .int .i64 y, .int .i64 z, .int .i64 u] 26) = W7 := ⟨_, rfl⟩
  have X7 : QRow W7 w6.heap.size 26 x y z u := hW7 ▸ qRow_alloc w6 _ x y z u
  have B7 : Below w6.heap.size w6 W7 := hW7 ▸ below_allocQ w6 _
  have R7 := R6.bel B7
  have K7 := K6.bel B7
  have H7 := gr_bel H6 B7
  have hX : w.heap.size < w6.heap.size := K6.lt
  have hneX : (some r : Option Nat) ≠ some w6.heap.size := fun e => by injection e with e; omega
  clear CT R5 K5 B6 H5 R6 K6 H6 B7
  go_wp2_with (fail)
  refine (pick_any R7 (by omega) (by omega)).mono ?_
  rintro e w8 ⟨t, rfl, hpt, R8, G8⟩
  clear hpt
  have K8 := K7.grown G8 hne
  have X8 := X7.grown G8 hneX
  have H8 := gr_trans H7 G8
  obtain ⟨c0, c1, c2, c3⟩ := X8.cells
  have e0 := X8.open_ 0
  have e1 := X8.open_ 1
  have e2 := X8.open_ 2
  have e3 := X8.open_ 3
  clear R7 K7 X7 G8 H7
  by_cases t0 : t = 0
  · subst t0
    obtain ⟨m, hm⟩ : ∃ m, IntKind.i64.wrap (x - 1) = m := ⟨_, rfl⟩
    have X9 := X8.put3 m
    have K9 := K8.grown (set_grown15 w8 w6.heap.size 3 (.int .i64 m)) (fun e => by injection e with e; omega)
    have R9 := rd_set (i := 3) (v := .int .i64 m) R8 (show r < w6.heap.size by omega)
    have H9 := gr_low H8 (set_low (i := 3) (v := .int .i64 m) s6)
    clear X8 K8 R8 H8
    have x0 := X9.cells.1
    have x1 := X9.cells.2.1
    have x2 := X9.cells.2.2.1
    have x3 := X9.cells.2.2.2
    obtain ⟨k0, k1, k2, k3⟩ := K9.cells
    have f0 := K9.open_ 0
    have f1 := K9.open_ 1
    have f2 := K9.open_ 2
    have f3 := K9.open_ 3
    have HF := Lib.hid (K9.put x y z m)
    have HR := Lib.hid (rd_set (i := 3) (v := (.int .i64 m)) (rd_set (i := 2) (v := (.int .i64 z)) (rd_set (i := 1) (v := (.int .i64 y)) (rd_set (B := w.heap.size) (i := 0) (v := (.int .i64 x)) R9 hrl) hrl) hrl) hrl)
    have HG := Lib.hid (gr_low H9 (put_belowQ (Below.refl _ _) (R := w.heap.size) (Nat.le_refl _) (.int .i64 x) (.int .i64 y) (.int .i64 z) (.int .i64 m)))
    clear K9 X9 R9 H9
    go_wp2
    refine bodyPost_ret (results_cell_row rfl _ _ _ _ _ _ _ rfl HF.out Try.underlying26 rfl (by kernel_rfl)) rfl ?_
    exact ⟨_, _, _, _, _, rfl, by omega, HR.out, HG.out⟩
  have t0B : (t == 0) = false := by simp [t0]
  by_cases t1 : t = 1
  · subst t1
    obtain ⟨m1, hm1⟩ : ∃ m, IntKind.i64.wrap (y - 1) = m := ⟨_, rfl⟩
    obtain ⟨m2, hm2⟩ : ∃ m, IntKind.i64.wrap (y + 5000) = m := ⟨_, rfl⟩
    go_wp2_with (fail)
    refine (num_any (n := 2) (l := [m1, m2]) (R8.alloc _) (by omega) (Has.row #[.int .i64 m1, .int .i64 m2] rfl rfl (by unfold maxLen; omega)) (fun ad ha => by injection ha with ha; subst ha; have := R8.lt; simp; omega) (by omega) (by omega)).mono ?_
    rintro e w9 ⟨m, rfl, hv9, R9, G9⟩
    clear hv9
    have GA9 := gr_alloc G9
    have K9 := K8.grown GA9 hne
    have X9 := X8.grown GA9 hneX
    have H9 := gr_trans H8 GA9
    obtain ⟨d0, d1, d2, d3⟩ := X9.cells
    have g0 := X9.open_ 0
    have g1 := X9.open_ 1
    have g2 := X9.open_ 2
    have g3 := X9.open_ 3
    have XA := X9.put2 m
    have KA := K9.grown (set_grown15 w9 w6.heap.size 2 (.int .i64 m)) (fun e => by injection e with e; omega)
    have RA := rd_set (i := 2) (v := .int .i64 m) R9 (show r < w6.heap.size by omega)
    have HA := gr_low H9 (set_low (i := 2) (v := .int .i64 m) s6)
    clear X8 K8 R8 H8 G9 GA9 K9 X9 R9 H9 c0 c1 c2 c3 e0 e1 e2 e3
    have x0 := XA.cells.1
    have x1 := XA.cells.2.1
    have x2 := XA.cells.2.2.1
    have x3 := XA.cells.2.2.2
    obtain ⟨k0, k1, k2, k3⟩ := KA.cells
    have f0 := KA.open_ 0
    have f1 := KA.open_ 1
    have f2 := KA.open_ 2
    have f3 := KA.open_ 3
    have HF := Lib.hid (KA.put x y m u)
    have HR := Lib.hid (rd_set (i := 3) (v := (.int .i64 u)) (rd_set (i := 2) (v := (.int .i64 m)) (rd_set (i := 1) (v := (.int .i64 y)) (rd_set (B := w.heap.size) (i := 0) (v := (.int .i64 x)) RA hrl) hrl) hrl) hrl)
    have HG := Lib.hid (gr_low HA (put_belowQ (Below.refl _ _) (R := w.heap.size) (Nat.le_refl _) (.int .i64 x) (.int .i64 y) (.int .i64 m) (.int .i64 u)))
    clear KA XA RA HA
    go_wp2
    refine bodyPost_ret (results_cell_row rfl _ _ _ _ _ _ _ rfl HF.out Try.underlying26 rfl (by kernel_rfl)) rfl ?_
    exact ⟨_, _, _, _, _, rfl, by omega, HR.out, HG.out⟩
  have t1B : (t == 1) = false := by simp [t1]
  by_cases t2 : t = 2
  · subst t2
    go_wp2_with (fail)
    refine (num_any (n := 2) (l := [1000001, -1000001]) (R8.alloc _) (by omega) (Has.row #[.int .i64 1000001, .int .i64 (-1000001)] rfl rfl (by unfold maxLen; omega)) (fun ad ha => by injection ha with ha; subst ha; have := R8.lt; simp; omega) (by omega) (by omega)).mono ?_
    rintro e w9 ⟨m, rfl, hv9, R9, G9⟩
    clear hv9
    have GA9 := gr_alloc G9
    have K9 := K8.grown GA9 hne
    have X9 := X8.grown GA9 hneX
    have H9 := gr_trans H8 GA9
    obtain ⟨d0, d1, d2, d3⟩ := X9.cells
    have g0 := X9.open_ 0
    have g1 := X9.open_ 1
    have g2 := X9.open_ 2
    have g3 := X9.open_ 3
    have XA := X9.put0 m
    have KA := K9.grown (set_grown15 w9 w6.heap.size 0 (.int .i64 m)) (fun e => by injection e with e; omega)
    have RA := rd_set (i := 0) (v := .int .i64 m) R9 (show r < w6.heap.size by omega)
    have HA := gr_low H9 (set_low (i := 0) (v := .int .i64 m) s6)
    clear X8 K8 R8 H8 G9 GA9 K9 X9 R9 H9 c0 c1 c2 c3 e0 e1 e2 e3
    have x0 := XA.cells.1
    have x1 := XA.cells.2.1
    have x2 := XA.cells.2.2.1
    have x3 := XA.cells.2.2.2
    obtain ⟨k0, k1, k2, k3⟩ := KA.cells
    have f0 := KA.open_ 0
    have f1 := KA.open_ 1
    have f2 := KA.open_ 2
    have f3 := KA.open_ 3
    have HF := Lib.hid (KA.put m y z u)
    have HR := Lib.hid (rd_set (i := 3) (v := (.int .i64 u)) (rd_set (i := 2) (v := (.int .i64 z)) (rd_set (i := 1) (v := (.int .i64 y)) (rd_set (B := w.heap.size) (i := 0) (v := (.int .i64 m)) RA hrl) hrl) hrl) hrl)
    have HG := Lib.hid (gr_low HA (put_belowQ (Below.refl _ _) (R := w.heap.size) (Nat.le_refl _) (.int .i64 m) (.int .i64 y) (.int .i64 z) (.int .i64 u)))
    clear KA XA RA HA
    go_wp2
    refine bodyPost_ret (results_cell_row rfl _ _ _ _ _ _ _ rfl HF.out Try.underlying26 rfl (by kernel_rfl)) rfl ?_
    exact ⟨_, _, _, _, _, rfl, by omega, HR.out, HG.out⟩
  have t2B : (t == 2) = false := by simp [t2]
  clear t0 t1 t2
  have x0 := X8.cells.1
  have x1 := X8.cells.2.1
  have x2 := X8.cells.2.2.1
  have x3 := X8.cells.2.2.2
  obtain ⟨k0, k1, k2, k3⟩ := K8.cells
  have f0 := K8.open_ 0
  have f1 := K8.open_ 1
  have f2 := K8.open_ 2
  have f3 := K8.open_ 3
  have HF := Lib.hid (K8.put x y z u)
  have HR := Lib.hid (rd_set (i := 3) (v := (.int .i64 u)) (rd_set (i := 2) (v := (.int .i64 z)) (rd_set (i := 1) (v := (.int .i64 y)) (rd_set (B := w.heap.size) (i := 0) (v := (.int .i64 x)) R8 hrl) hrl) hrl) hrl)
  have HG := Lib.hid (gr_low H8 (put_belowQ (Below.refl _ _) (R := w.heap.size) (Nat.le_refl _) (.int .i64 x) (.int .i64 y) (.int .i64 z) (.int .i64 u)))
  clear K8 X8 R8 H8
  go_wp2
  refine bodyPost_ret (results_cell_row rfl _ _ _ _ _ _ _ rfl HF.out Try.underlying26 rfl (by kernel_rfl)) rfl ?_
  exact ⟨_, _, _, _, _, rfl, by omega, HR.out, HG.out⟩
set_option maxRecDepth 100000 in
set_option maxHeartbeats 8000000 in
theorem l15One_any {lo r p : Nat} {w : World} (h : Rd w lo r p) (hp : p ≤ 274877906944) :
    Calls Try.prog 61 #[.pointer (some ⟨r, 0, none⟩)] w fun e w' => ∃ (a b : Int) (p' : Nat), e = .returned (.agg #[.int .i64 a, .int .i64 b]) ∧ ((-5 ≤ a ∧ a ≤ 14) ∧ -6 ≤ b ∧ b ≤ 4000001) ∧ p' ≤ p + 3 ∧ Rd w' lo r p' ∧ w.grownBy w' (some r) := by
  have hrl := h.lt
  obtain ⟨W0, hW0⟩ : ∃ W0, w.alloc (.cells #[.int .i64 0, .int .i64 0] 30) = W0 := ⟨_, rfl⟩
  have K0 : DRow W0 w.heap.size 30 0 0 := hW0 ▸ dRow_alloc w _ 0 0
  have R0 : Rd W0 lo r p := hW0 ▸ h.alloc _
  have G0 : w.grownBy W0 (some r) := hW0 ▸ World.grownBy_alloc _ _ _
  have hne : (some r : Option Nat) ≠ some w.heap.size := fun e => by injection e with e; omega
  go_enter Try.func61, Try.ntmps61
  go_wp2_with (fail)
  refine (pick_any R0 (by omega) (by omega)).mono ?_
  rintro e w1 ⟨v1, rfl, hpv1, R1, G1⟩
  have hbv1 : 0 ≤ v1 ∧ v1 ≤ 19 := by unfold Picked at hpv1; omega
  clear hpv1
  have K1 := K0.grown G1 hne
  have H1 := gr_trans G0 G1
  obtain ⟨x, hx⟩ : ∃ x, v1 - 5 = x := ⟨_, rfl⟩
  have hxb : -5 ≤ x ∧ x ≤ 14 := by omega
  have wl : IntKind.i64.wrap (v1 - 5) = x := by rw [hx]; exact IntWalk.i64_in _ (by omega)
  clear G1 K0 G0 R0 hW0 hx hbv1
  go_wp2_with (fail)
  refine (pick_any R1 (by omega) (by omega)).mono ?_
  rintro e w2 ⟨v2, rfl, hpv2, R2, G2⟩
  have hbv2 : 0 ≤ v2 ∧ v2 ≤ 8 := by unfold Picked at hpv2; omega
  clear hpv2
  have K2 := K1.grown G2 hne
  have H2 := gr_trans H1 G2
  have s2 := H2.size
  obtain ⟨y, hy⟩ : ∃ y, x + v2 = y := ⟨_, rfl⟩
  have hyb : -5 ≤ y ∧ y ≤ 22 := by omega
  have wy : IntKind.i64.wrap (x + v2) = y := by rw [hy]; exact IntWalk.i64_in _ (by omega)
  obtain ⟨W3, hW3⟩ : ∃ W3, w2.alloc (.cells #[.int .i64 x, .int .i64 y] 30) = W3 := ⟨_, rfl⟩
  have X3 : DRow W3 w2.heap.size 30 x y := hW3 ▸ dRow_alloc w2 _ x y
  have B3 : Below w2.heap.size w2 W3 := hW3 ▸ below_allocQ w2 _
  have R3 := R2.bel B3
  have K3 := K2.bel B3
  have H3 := gr_bel H2 B3
  have hX : w.heap.size < w2.heap.size := K2.lt
  have hneX : (some r : Option Nat) ≠ some w2.heap.size := fun e => by injection e with e; omega
  clear R1 K1 G2 H1 R2 K2 H2 B3 hy
  go_wp2_with (fail)
  refine (pick_any R3 (by omega) (by omega)).mono ?_
  rintro e w4 ⟨t, rfl, hpt, R4, G4⟩
  clear hpt
  have K4 := K3.grown G4 hne
  have X4 := X3.grown G4 hneX
  have H4 := gr_trans H3 G4
  obtain ⟨c0, c1⟩ := X4.cells
  have e0 := X4.open_ 0
  have e1 := X4.open_ 1
  clear R3 K3 X3 G4 H3
  by_cases t0 : t = 0
  · subst t0
    have wm : IntKind.i64.wrap (x - 1) = x - 1 := IntWalk.i64_in _ (by omega)
    have X5 := X4.put1 (x - 1)
    have K5 := K4.grown (set_grown15 w4 w2.heap.size 1 (.int .i64 (x - 1))) (fun e => by injection e with e; omega)
    have R5 := rd_set (i := 1) (v := .int .i64 (x - 1)) R4 (show r < w2.heap.size by omega)
    have H5 := gr_low H4 (set_low (i := 1) (v := .int .i64 (x - 1)) s2)
    clear X4 K4 R4 H4
    obtain ⟨x0, x1⟩ := X5.cells
    obtain ⟨k0, k1⟩ := K5.cells
    have f0 := K5.open_ 0
    have f1 := K5.open_ 1
    have HF := Lib.hid (K5.put x (x - 1))
    have HR := Lib.hid (rd_set (i := 1) (v := (.int .i64 (x - 1))) (rd_set (B := w.heap.size) (i := 0) (v := (.int .i64 x)) R5 hrl) hrl)
    have HG := Lib.hid (gr_low H5 (put_belowD (Below.refl _ _) (R := w.heap.size) (Nat.le_refl _) (.int .i64 x) (.int .i64 (x - 1))))
    clear K5 X5 R5 H5
    go_wp2
    refine bodyPost_ret (results_cell_row rfl _ _ _ _ _ _ _ rfl HF.out Try.underlying30 rfl (by kernel_rfl)) rfl ?_
    exact ⟨_, _, _, rfl, by omega, by omega, HR.out, HG.out⟩
  have t0B : (t == 0) = false := by simp [t0]
  by_cases t1 : t = 1
  · subst t1
    have X5 := X4.put1 (4000001)
    have K5 := K4.grown (set_grown15 w4 w2.heap.size 1 (.int .i64 (4000001))) (fun e => by injection e with e; omega)
    have R5 := rd_set (i := 1) (v := .int .i64 (4000001)) R4 (show r < w2.heap.size by omega)
    have H5 := gr_low H4 (set_low (i := 1) (v := .int .i64 (4000001)) s2)
    clear X4 K4 R4 H4
    obtain ⟨x0, x1⟩ := X5.cells
    obtain ⟨k0, k1⟩ := K5.cells
    have f0 := K5.open_ 0
    have f1 := K5.open_ 1
    have HF := Lib.hid (K5.put x 4000001)
    have HR := Lib.hid (rd_set (i := 1) (v := (.int .i64 4000001)) (rd_set (B := w.heap.size) (i := 0) (v := (.int .i64 x)) R5 hrl) hrl)
    have HG := Lib.hid (gr_low H5 (put_belowD (Below.refl _ _) (R := w.heap.size) (Nat.le_refl _) (.int .i64 x) (.int .i64 4000001)))
    clear K5 X5 R5 H5
    go_wp2
    refine bodyPost_ret (results_cell_row rfl _ _ _ _ _ _ _ rfl HF.out Try.underlying30 rfl (by kernel_rfl)) rfl ?_
    exact ⟨_, _, _, rfl, by omega, by omega, HR.out, HG.out⟩
  have t1B : (t == 1) = false := by simp [t1]
  clear t0 t1
  obtain ⟨x0, x1⟩ := X4.cells
  obtain ⟨k0, k1⟩ := K4.cells
  have f0 := K4.open_ 0
  have f1 := K4.open_ 1
  have HF := Lib.hid (K4.put x y)
  have HR := Lib.hid (rd_set (i := 1) (v := (.int .i64 y)) (rd_set (B := w.heap.size) (i := 0) (v := (.int .i64 x)) R4 hrl) hrl)
  have HG := Lib.hid (gr_low H4 (put_belowD (Below.refl _ _) (R := w.heap.size) (Nat.le_refl _) (.int .i64 x) (.int .i64 y)))
  clear K4 X4 R4 H4
  go_wp2
  refine bodyPost_ret (results_cell_row rfl _ _ _ _ _ _ _ rfl HF.out Try.underlying30 rfl (by kernel_rfl)) rfl ?_
  exact ⟨_, _, _, rfl, by omega, by omega, HR.out, HG.out⟩
set_option maxRecDepth 100000 in
set_option maxHeartbeats 8000000 in
theorem drawTalkTimes_any {A : Option Addr} {n c : Nat} {zs : List Int} {w : World} (h : Has w A n (ints .u8 zs)) (hu : U8s zs) (hc : n ≤ c ∧ c ≤ maxLen) :
    Calls Try.prog 17 #[.slice A n c] w fun e w' => ∃ (a t k b q : Int), e = .returned (.tuple #[.int .i64 a, .int .i64 t, .int .i64 k, .int .i64 b, .int .i64 q]) ∧ Below w.heap.size w w' := by
  go_enter Try.func17, Try.ntmps17
  go_wp2_with (fail)
  refine (open_any h hu hc).mono ?_
  rintro e w1 ⟨r, rfl, R1, B1⟩
  go_wp2_with (fail)
  refine (pick_any R1 (by omega) (by omega)).mono ?_
  rintro e w2 ⟨u1, rfl, hpu1, R2, G2⟩
  clear hpu1
  go_wp2_with (fail)
  refine (num_any (n := 7) (l := [0, 5, -5, 300, 1000000, -1000001, u1]) (R2.alloc _) (by omega) (Has.row #[.int .i64 0, .int .i64 5, .int .i64 (-5), .int .i64 300, .int .i64 1000000, .int .i64 (-1000001), .int .i64 u1] rfl rfl (by unfold maxLen; omega)) (fun ad ha => by injection ha with ha; subst ha; have := R2.lt; simp; omega) (by omega) (by omega)).mono ?_
  rintro e w3 ⟨v1, rfl, hv3, R3, G3⟩
  clear hv3
  have H3 := gr_trans G2 (gr_alloc G3)
  clear G2 G3 R2
  go_wp2_with (fail)
  refine (pick_any R3 (by omega) (by omega)).mono ?_
  rintro e w4 ⟨u2, rfl, hpu2, R4, G4⟩
  clear hpu2
  go_wp2_with (fail)
  refine (num_any (n := 5) (l := [3, 0, 1000, 1001, u2]) (R4.alloc _) (by omega) (Has.row #[.int .i64 3, .int .i64 0, .int .i64 1000, .int .i64 1001, .int .i64 u2] rfl rfl (by unfold maxLen; omega)) (fun ad ha => by injection ha with ha; subst ha; have := R4.lt; simp; omega) (by omega) (by omega)).mono ?_
  rintro e w5 ⟨v2, rfl, hv5, R5, G5⟩
  clear hv5
  have H5 := gr_trans (gr_trans H3 G4) (gr_alloc G5)
  clear H3 G4 G5 R3 R4
  go_wp2_with (fail)
  refine (num_any (n := 4) (l := [1, 0, 1000, -1]) (R5.alloc _) (by omega) (Has.row #[.int .i64 1, .int .i64 0, .int .i64 1000, .int .i64 (-1)] rfl rfl (by unfold maxLen; omega)) (fun ad ha => by injection ha with ha; subst ha; have := R5.lt; simp; omega) (by omega) (by omega)).mono ?_
  rintro e w6 ⟨v3, rfl, hv6, R6, G6⟩
  clear hv6
  have H6 := gr_trans H5 (gr_alloc G6)
  clear H5 G6 R5
  go_wp2_with (fail)
  refine (pick_any R6 (by omega) (by omega)).mono ?_
  rintro e w7 ⟨u4, rfl, hpu4, R7, G7⟩
  clear hpu4
  go_wp2_with (fail)
  refine (num_any (n := 5) (l := [4, 0, 1000, 1001, u4]) (R7.alloc _) (by omega) (Has.row #[.int .i64 4, .int .i64 0, .int .i64 1000, .int .i64 1001, .int .i64 u4] rfl rfl (by unfold maxLen; omega)) (fun ad ha => by injection ha with ha; subst ha; have := R7.lt; simp; omega) (by omega) (by omega)).mono ?_
  rintro e w8 ⟨v4, rfl, hv8, R8, G8⟩
  clear hv8
  have H8 := gr_trans (gr_trans H6 G7) (gr_alloc G8)
  clear H6 G7 G8 R6 R7
  go_wp2_with (fail)
  refine (num_any (n := 4) (l := [0, 77, 1000000, -1000000]) (R8.alloc _) (by omega) (Has.row #[.int .i64 0, .int .i64 77, .int .i64 1000000, .int .i64 (-1000000)] rfl rfl (by unfold maxLen; omega)) (fun ad ha => by injection ha with ha; subst ha; have := R8.lt; simp; omega) (by omega) (by omega)).mono ?_
  rintro e w9 ⟨v5, rfl, hv9, R9, G9⟩
  clear hv9
  have H9 := gr_trans H8 (gr_alloc G9)
  clear H8 G9 R8
  go_wp2
  refine bodyPost_ret (results_tmp5T rfl _ _ _) rfl ?_
  exact ⟨_, _, _, _, _, rfl, bel_read B1 R1 H9⟩
set_option maxRecDepth 100000 in
set_option maxHeartbeats 4000000 in
theorem drawSpanOf_any {A : Option Addr} {n c : Nat} {zs : List Int} {w : World} (h : Has w A n (ints .u8 zs)) (hu : U8s zs) (hc : n ≤ c ∧ c ≤ maxLen) :
    Calls Try.prog 25 #[.slice A n c] w fun e w' => ∃ (x y z u : Int), e = .returned (.agg #[.int .i64 x, .int .i64 y, .int .i64 z, .int .i64 u]) ∧ Below w.heap.size w w' := by
  obtain ⟨W0, hW0⟩ : ∃ W0, w.alloc (.cells #[.int .i64 0, .int .i64 0, .int .i64 0, .int .i64 0] 26) = W0 := ⟨_, rfl⟩
  have K0 : QRow W0 w.heap.size 26 0 0 0 0 := hW0 ▸ qRow_alloc w _ 0 0 0 0
  have B0 : Below w.heap.size w W0 := hW0 ▸ below_allocQ w _
  have h0 := h.bel B0
  go_enter Try.func25, Try.ntmps25
  go_wp2_with (fail)
  refine (open_any h0 hu hc).mono ?_
  rintro e w1 ⟨r, rfl, R1, B1⟩
  go_wp2_with (fail)
  refine (l15Draw_any R1 (by omega)).mono ?_
  rintro e w2 ⟨x, y, z, u, p2, rfl, _, R2, G2⟩
  have B2 := bel_read B1 R1 G2
  have K2 := K0.bel B2
  have s2 := bel_trans B0 B2
  obtain ⟨k0, k1, k2, k3⟩ := K2.cells
  have f0 := K2.open_ 0
  have f1 := K2.open_ 1
  have f2 := K2.open_ 2
  have f3 := K2.open_ 3
  have HF := Lib.hid (K2.put x y z u)
  have HB := Lib.hid (put_belowQ s2 (R := w.heap.size) (Nat.le_refl _) (.int .i64 x) (.int .i64 y) (.int .i64 z) (.int .i64 u))
  clear K0 K2 B0 B1 B2 s2 R1 R2 G2
  go_wp2
  refine bodyPost_ret (results_cell_row rfl _ _ _ _ _ _ _ rfl HF.out Try.underlying26 rfl (by kernel_rfl)) rfl ?_
  exact ⟨_, _, _, _, rfl, HB.out⟩
set_option maxRecDepth 100000 in
set_option maxHeartbeats 8000000 in
theorem drawBestOf_any {A : Option Addr} {n c : Nat} {zs : List Int} {w : World} (h : Has w A n (ints .u8 zs)) (hu : U8s zs) (hc : n ≤ c ∧ c ≤ maxLen) :
    Calls Try.prog 30 #[.slice A n c] w fun e w' => ∃ (B : Option Addr) (m d : Nat) (xs : List Quad), e = .returned (.slice B m d) ∧ HasQ w' B m xs ∧ m ≤ 6 ∧ Below w.heap.size w w' := by
  obtain ⟨j0, hji, jz0, jz1, jz2⟩ := info_partsD Try.infoExch
  go_enter Try.func30, Try.ntmps30
  go_wp2_with (fail)
  refine (open_any h hu hc).mono ?_
  rintro e w1 ⟨r, rfl, R1, B1⟩
  have hrl := R1.lt
  have O2 : OwnQ (w1.alloc (.cells #[] 26)) w1.heap.size 26 (some ⟨w1.heap.size, 0, none⟩) 0 0 [] := World.ownsRow_lit w1 #[] 0 (Nat.le_refl _) (by unfold maxLen; omega) rfl
  have R2 := R1.alloc (.cells #[] 26)
  have G2 : w1.grownBy (w1.alloc (.cells #[] 26)) (some r) := World.grownBy_alloc _ _ _
  go_wp2_with (fail)
  refine (pick_any R2 (by omega) (by omega)).mono ?_
  rintro e w3 ⟨v, rfl, hv, R3, G3⟩
  have hvb : 0 ≤ v ∧ v ≤ 5 := by unfold Picked at hv; omega
  obtain ⟨k1, rfl⟩ := Int.eq_ofNat_of_zero_le hvb.1
  have hk5 : k1 ≤ 5 := by omega
  have O3 := O2.past15 hrl G3
  have G13 := gr_trans G2 G3
  clear hv hvb O2 R2 G2 G3
  go_wp2
  go_loopw [4, 5] (fun v i wr => ∃ (k m d : Nat) (B : Option Addr) (xs : List Quad) (p : Nat), k + m = k1 ∧ i = .int .i64 (k : Int) ∧ v = .slice B m d ∧ OwnQ wr w1.heap.size 26 B m d xs ∧ p ≤ 7 + 7 * m ∧ Rd wr w.heap.size r p ∧ w1.grownBy wr (some r)) (fun _ i _ => (intOf i).toNat)
  case atStart => exact ⟨k1, 0, _, _, [], _, by omega, rfl, rfl, O3, by omega, R3, G13⟩
  case round =>
    clear O3 R3 G13
    obtain ⟨k, m, d, B, xs, p, hkm, rfl, rfl, O, hp, R, G⟩ := hrel
    have s := G.size
    by_cases hk : 0 < k
    · have hkB : decide ((k : Int) > 0) = true := by simp; omega
      have hkC : decide (0 < (k : Int)) = true := by simp; omega
      go_wp2_with (fail)
      refine (l15Draw_any R (by omega)).mono ?_
      rintro e w4 ⟨x, y, z, u, p4, rfl, hp4, R4, G4⟩
      have O4 := O.past15 hrl G4
      have G14 := gr_trans G G4
      have s4 := G14.size
      clear O R G G4
      go_wp2_with (at_builtin; refine wpList_appQ15 _ rfl (.tmp 15) (.tmp 18) 38 rfl w1.heap.size 26 j0 (.agg #[.int .i64 0, .int .i64 0, .int .i64 0, .int .i64 0]) 32 Try.underlying38 hji jz0 jz1 jz2 rfl B m d xs rfl O4 x y z u 1 rfl (by omega) (by decide) s4 ?_; intro g5 c5 w5 O5 G5)
      have R5 := R4.grown G5 (row_far O4 hrl R4)
      have G15 := gr_new G14 G5 (row_ge O4)
      go_roundw
      case rel => exact ⟨k - 1, m + 1, c5, _, _, p4, by omega, by go_num, rfl, O5, by omega, R5, G15⟩
      case measure => simp [intOf]; omega
    · obtain rfl : k = 0 := by omega
      go_wp2
      go_ret
      exact ⟨_, _, _, _, rfl, O.has, by omega, bel_read B1 R1 G⟩
set_option maxRecDepth 100000 in
set_option maxHeartbeats 8000000 in
theorem drawMeetSpans_any {A : Option Addr} {n c : Nat} {zs : List Int} {w : World} (h : Has w A n (ints .u8 zs)) (hu : U8s zs) (hc : n ≤ c ∧ c ≤ maxLen) :
    Calls Try.prog 33 #[.slice A n c] w fun e w' => ∃ (B : Option Addr) (m d : Nat) (xs : List Duo), e = .returned (.slice B m d) ∧ HasD w' B m xs ∧ m ≤ 20 ∧ Below w.heap.size w w' := by
  obtain ⟨j0, hji, jz0, jz1, jz2⟩ := info_partsD Try.infoSpan
  go_enter Try.func33, Try.ntmps33
  go_wp2_with (fail)
  refine (open_any h hu hc).mono ?_
  rintro e w1 ⟨r, rfl, R1, B1⟩
  have hrl := R1.lt
  have O2 : OwnD (w1.alloc (.cells #[] 30)) w1.heap.size 30 (some ⟨w1.heap.size, 0, none⟩) 0 0 [] := World.ownsRow_lit w1 #[] 0 (Nat.le_refl _) (by unfold maxLen; omega) rfl
  have R2 := R1.alloc (.cells #[] 30)
  have G2 : w1.grownBy (w1.alloc (.cells #[] 30)) (some r) := World.grownBy_alloc _ _ _
  go_wp2_with (fail)
  refine (num_any (n := 7) (l := [3, 5, 2, 8, 1, 0, 20]) (R2.alloc _) (by omega) (Has.rowAt #[.int .i64 3, .int .i64 5, .int .i64 2, .int .i64 8, .int .i64 1, .int .i64 0, .int .i64 20] rfl rfl (by decide) _ (by simp)) (fun ad ha => by injection ha with ha; subst ha; have := R2.lt; simp at this; simp; omega) (by omega) (by omega)).mono ?_
  rintro e w3 ⟨v, rfl, hv, R3, G3⟩
  have hvb : 0 ≤ v ∧ v ≤ 20 := by simp at hv; omega
  obtain ⟨k1, rfl⟩ := Int.eq_ofNat_of_zero_le hvb.1
  have hk5 : k1 ≤ 20 := by omega
  have O3 := (O2.bel (below_allocQ (w1.alloc (.cells #[] 30)) (.cells #[.int .i64 3, .int .i64 5, .int .i64 2, .int .i64 8, .int .i64 1, .int .i64 0, .int .i64 20] 3))).past15 hrl G3
  have G13 := gr_trans G2 (gr_alloc G3)
  clear hv hvb O2 R2 G2 G3
  go_wp2
  go_loopw [4, 5] (fun v i wr => ∃ (k m d : Nat) (B : Option Addr) (xs : List Duo) (p : Nat), k + m = k1 ∧ i = .int .i64 (k : Int) ∧ v = .slice B m d ∧ OwnD wr w1.heap.size 30 B m d xs ∧ p ≤ 7 + 7 * m ∧ Rd wr w.heap.size r p ∧ w1.grownBy wr (some r)) (fun _ i _ => (intOf i).toNat)
  case atStart => exact ⟨k1, 0, _, _, [], _, by omega, rfl, rfl, O3, by omega, R3, G13⟩
  case round =>
    clear O3 R3 G13
    obtain ⟨k, m, d, B, xs, p, hkm, rfl, rfl, O, hp, R, G⟩ := hrel
    have s := G.size
    by_cases hk : 0 < k
    · have hkB : decide ((k : Int) > 0) = true := by simp; omega
      have hkC : decide (0 < (k : Int)) = true := by simp; omega
      go_wp2_with (fail)
      refine (l15One_any R (by omega)).mono ?_
      rintro e w4 ⟨x, y, p4, rfl, _, hp4, R4, G4⟩
      have O4 := O.past15 hrl G4
      have G14 := gr_trans G G4
      have s4 := G14.size
      clear O R G G4
      go_wp2_with (at_builtin; refine wpList_appD15 _ rfl (.tmp 16) (.tmp 19) 41 rfl w1.heap.size 30 j0 (.agg #[.int .i64 0, .int .i64 0]) 16 Try.underlying41 hji jz0 jz1 jz2 rfl B m d xs rfl O4 x y 1 rfl (by omega) (by decide) s4 ?_; intro g5 c5 w5 O5 G5)
      have R5 := R4.grown G5 (row_far O4 hrl R4)
      have G15 := gr_new G14 G5 (row_ge O4)
      go_roundw
      case rel => exact ⟨k - 1, m + 1, c5, _, _, p4, by omega, by go_num, rfl, O5, by omega, R5, G15⟩
      case measure => simp [intOf]; omega
    · obtain rfl : k = 0 := by omega
      go_wp2
      go_ret
      exact ⟨_, _, _, _, rfl, O.has, by omega, bel_read B1 R1 G⟩
set_option maxRecDepth 100000 in
set_option maxHeartbeats 8000000 in
theorem drawSpanHas_any {A : Option Addr} {n c : Nat} {zs : List Int} {w : World} (h : Has w A n (ints .u8 zs)) (hu : U8s zs) (hc : n ≤ c ∧ c ≤ maxLen) :
    Calls Try.prog 36 #[.slice A n c] w fun e w' => ∃ (x y k : Int), e = .returned (.tuple #[.agg #[.int .i64 x, .int .i64 y], .int .i64 k]) ∧ Below w.heap.size w w' := by
  obtain ⟨W0, hW0⟩ : ∃ W0, w.alloc (.cells #[.int .i64 0, .int .i64 0] 30) = W0 := ⟨_, rfl⟩
  have K0 : DRow W0 w.heap.size 30 0 0 := hW0 ▸ dRow_alloc w _ 0 0
  have B0 : Below w.heap.size w W0 := hW0 ▸ below_allocQ w _
  have h0 := h.bel B0
  have HK0 := Lib.hid K0
  have hk0 := K0.lt
  go_enter Try.func36, Try.ntmps36
  go_wp2_with (fail)
  refine (open_any h0 hu hc).mono ?_
  rintro e w1 ⟨r, rfl, R1, B1⟩
  have hrl := R1.lt
  have hr0 := R1.1
  go_wp2_with (fail)
  refine (l15One_any R1 (by omega)).mono ?_
  rintro e w2 ⟨x, y, p2, rfl, hxy, hp2, R2, G2⟩
  have HB1 := Lib.hid B1
  have HR1 := Lib.hid R1
  have s2 := G2.size
  obtain ⟨W3, hW3⟩ : ∃ W3, w2.alloc (.cells #[.int .i64 x, .int .i64 y] 30) = W3 := ⟨_, rfl⟩
  have X3 : DRow W3 w2.heap.size 30 x y := hW3 ▸ dRow_alloc w2 _ x y
  have B3 : Below w2.heap.size w2 W3 := hW3 ▸ below_allocQ w2 _
  have R3a := R2.bel B3
  have R3 : Rd W3.drew W0.heap.size r p2 := R3a
  have G3 : w1.grownBy W3.drew (some r) := gr_bel G2 (B3.drew)
  have X3d : DRow W3.drew w2.heap.size 30 x y := X3
  have hneX : (some r : Option Nat) ≠ some w2.heap.size := fun e => by injection e with e; omega
  have hRX : w.heap.size ≠ w2.heap.size := by have := B1.size; omega
  obtain ⟨c0, c1⟩ := X3.cells
  have wm1 : IntKind.i64.wrap (x - 1) = x - 1 := IntWalk.i64_in _ (by omega)
  have wm2 : IntKind.i64.wrap (y + 1) = y + 1 := IntWalk.i64_in _ (by omega)
  have C := Lib.hid (num_any (n := 5) (c := 5) (l := [x, y, x - 1, y + 1, 0]) (R3.alloc (.cells #[.int .i64 x, .int .i64 y, .int .i64 (x - 1), .int .i64 (y + 1), .int .i64 0] 3)) (by omega) (Has.row #[.int .i64 x, .int .i64 y, .int .i64 (x - 1), .int .i64 (y + 1), .int .i64 0] rfl rfl (by unfold maxLen; omega)) (fun ad ha => by injection ha with ha; subst ha; exact Nat.ne_of_gt R3.lt) (by omega) (by omega))
  have AF := Lib.hid (fun (V : World) (hV : (W3.drew.alloc (.cells #[.int .i64 x, .int .i64 y, .int .i64 (x - 1), .int .i64 (y + 1), .int .i64 0] 3)).grownBy V (some r)) => (show (V.cell? ⟨w2.heap.size, 0, none⟩ = some (.int .i64 x) ∧ V.cell? ⟨w2.heap.size, 1, none⟩ = some (.int .i64 y)) ∧ (DRow V w.heap.size 30 0 0) ∧ Below W0.heap.size W0 V from by
    have g := gr_alloc hV
    have b := bel_read HB1.out HR1.out (gr_trans G3 g)
    exact ⟨(X3d.grown g hneX).cells, HK0.out.bel b, b⟩))
  clear X3 X3d B3 R3 R3a G3 R2 G2 R1 B1 K0 hxy
  go_wp2
  go_region_held3 (fun w' => w'.cell? ⟨w2.heap.size, 0, none⟩ = some (.int .i64 x) ∧ w'.cell? ⟨w2.heap.size, 1, none⟩ = some (.int .i64 y)) (first | exact ⟨c0, c1⟩ | exact ⟨s0, s1⟩ | exact ⟨Lib.cell?_alloc_some _ c0, Lib.cell?_alloc_some _ c1⟩ | exact ⟨far2Q hRX s0, far2Q hRX s1⟩) (first | (go_at_call 49; refine C.out.mono ?_; rintro e w9 ⟨v, rfl, _, _, G9⟩; obtain ⟨⟨s0, s1⟩, K9, B9⟩ := AF.out w9 G9; have f0 := K9.open_ 0; have f1 := K9.open_ 1; obtain ⟨k0, k1⟩ := K9.cells))
  all_goals
    have HF := Lib.hid (K9.put x y)
    have HB := Lib.hid (put_belowD (bel_trans B0 B9) (R := w.heap.size) (Nat.le_refl _) (.int .i64 x) (.int .i64 y))
    go_wp2
    refine bodyPost_ret (results_row_tmpQ rfl _ _ _ _ _ _ _ rfl HF.out Try.underlying30 rfl (by kernel_rfl)) rfl ?_
    exact ⟨_, _, _, rfl, HB.out⟩
end Go.Proofs.Ytmifhkhanjiklaa
