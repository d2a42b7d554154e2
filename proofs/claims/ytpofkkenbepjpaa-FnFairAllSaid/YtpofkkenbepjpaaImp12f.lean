/-
  Chapter 12's program, the order by classes: what is proved here is what its iterator gives, and what StrictOrder returns, in memory of its own. Condition: lengths up to 2^24.
-/
import Derived.Test.YtpofkkenbepjpaaImp12e
namespace Go.Proofs.Ytpofkkenbepjpaa
open Go.RowKit Go.Shelf

attribute [local go_sem] Oper.semAt_some

def flatL (ls : List (List Duo)) : List Int := (ls.map (fun l => l.map (·.1))).flatten
theorem flatL_drop {ls : List (List Duo)} {c : Nat} {l : List Duo} (h : ls[c]? = some l) : flatL (ls.drop c) = l.map (·.1) ++ flatL (ls.drop (c + 1)) := by
  rw [List.drop_eq_getElem_cons (List.getElem?_eq_some_iff.1 h).1, (List.getElem?_eq_some_iff.1 h).2]
  rfl
def lenAt (W : World) (B o : Nat) : Nat := match W.cell? ⟨B, o, none⟩ with | some v => lenOf v | none => 0
def okOf : Value → Nat | .bool true => 1 | _ => 0
theorem lenAt_eq {W : World} {B o n c : Nat} {X : Option Addr} (h : W.cell? ⟨B, o, none⟩ = some (.slice X n c)) : lenAt W B o = n := by unfold lenAt; rw [h]; rfl

/-- A line in a variable of the iterator's. -/
def LineAt (W : World) (B : Nat) (X : Option Addr) (q d : Nat) : Prop := W.heap[B]? = some (.cells #[.slice X q d] 62 (0, 0))
def JobAt (W : World) (R : Nat) (x y : Int) : Prop := W.heap[R]? = some (.cells #[.int .i64 x, .int .i64 y] 86 (0, 0))
theorem JobAt.lt {W : World} {R : Nat} {x y : Int} (h : JobAt W R x y) : R < W.heap.size := (Array.getElem?_eq_some_iff.1 h).1
theorem LineAt.lt {W : World} {B q d : Nat} {X : Option Addr} (h : LineAt W B X q d) : B < W.heap.size := (Array.getElem?_eq_some_iff.1 h).1
theorem JobAt.cells {W : World} {R : Nat} {x y : Int} (h : JobAt W R x y) : W.cell? ⟨R, 0, none⟩ = some (.int .i64 x) ∧ W.cell? ⟨R, 1, none⟩ = some (.int .i64 y) ∧ ∀ j, W.frozen? ⟨R, j, none⟩ = false :=
  ⟨(cells2D h).1, (cells2D h).2, fun j => frozen_of_row W R j _ _ h⟩
theorem LineAt.cells {W : World} {B q d : Nat} {X : Option Addr} (h : LineAt W B X q d) : W.cell? ⟨B, 0, none⟩ = some (.slice X q d) ∧ ∀ j, W.frozen? ⟨B, j, none⟩ = false :=
  ⟨(cell_of_row W B 0 _ _ (0, 0) h).trans rfl, fun j => frozen_of_row W B j _ _ h⟩

/-- The next job of a line, if there is one: what is returned, and what is written. -/
def headOf (xs : List Duo) : Duo := xs.headD (0, 0)
theorem take_line {W : World} {B q d : Nat} {X : Option Addr} {xs : List Duo} (h : LineAt W B X q d) (hx : HasD W X q xs) (hq : q ≤ 1000000) (hd : q ≤ d) (hne : ∀ b o, X = some ⟨b, o, none⟩ → 0 < q → b ≠ B) :
    Calls Try.prog 72 #[.pointer (some ⟨B, 0, none⟩)] W fun e W' => e = .returned (.tuple #[.agg #[.int .i64 (headOf xs).1, .int .i64 (headOf xs).2], .bool (decide (0 < q))]) ∧ W.grownBy W' (some B) ∧ ∃ X' d', LineAt W' B X' (q - 1) d' ∧ q - 1 ≤ d' ∧ HasD W' X' (q - 1) xs.tail ∧ (∀ b o, X' = some ⟨b, o, none⟩ → 0 < q - 1 → ∃ o', X = some ⟨b, o', none⟩) := by
  have hBl := h.lt
  obtain ⟨c0, cf⟩ := h.cells
  cases xs with
  | nil =>
    obtain rfl : q = 0 := by have := hx.1; simpa using this.symm
    refine (take_none c0).mono ?_
    rintro e w' ⟨rfl, rfl⟩
    refine ⟨rfl, grownJ_some (World.grownBy_alloc _ _ _), X, d, (Below.heap_alloc _ _ _ hBl).trans h, hd, hx.bel (below_allocJ W _), fun b o e h0 => absurd h0 (by omega)⟩
  | cons j l =>
    have hl := hx.1
    simp only [List.length_cons] at hl
    obtain ⟨q, rfl⟩ : ∃ q', q = q' + 1 := ⟨l.length, hl.symm⟩
    obtain ⟨d, rfl⟩ : ∃ d', d = d' + 1 := ⟨d - 1, by omega⟩
    obtain ⟨b, o, x, y, rfl, hbl, hxx, d0, d1⟩ := hx.at_ (i := 0) (by omega)
    simp only [List.getElem?_cons_zero] at hxx
    injection hxx with hxx
    subst hxx
    simp only [Nat.zero_mul, Nat.add_zero] at d0 d1
    refine (take_some c0 (cf 0) (by omega) (by omega) d0 d1).mono ?_
    rintro e w' ⟨rfl, f', hf', rfl⟩
    have hbB : b ≠ B := hne b o rfl (by omega)
    have G : W.grownBy (((W.setCell ⟨B, 0, none⟩ (.slice (some ⟨b, f', none⟩) q d)).alloc (.cells #[.int .i64 x, .int .i64 y] 86)).alloc (.cells #[.int .i64 x, .int .i64 y] 86)) (some B) :=
      grownJ_none (grownJ_none (set_grownJ W B 0 _) (World.grownBy_alloc _ _ _)) (World.grownBy_alloc _ _ _)
    have L1 : LineAt (W.setCell ⟨B, 0, none⟩ (.slice (some ⟨b, f', none⟩) q d)) B (some ⟨b, f', none⟩) q d := (heap_setCell_same W B 0 _ _ _ h).trans rfl
    have hL := L1.lt
    refine ⟨by rw [decide_eq_true (show 0 < q + 1 by omega)]; rfl, G, some ⟨b, f', none⟩, d, ?_, by omega, ?_, ?_⟩
    · exact (Below.heap_alloc _ _ B (by simp at hL ⊢; omega)).trans ((Below.heap_alloc _ _ B hL).trans L1)
    · by_cases h0 : 0 < q
      · obtain rfl := hf' h0
        exact hx.tail.keep (fun b' o' e _ => by injection e with e; injection e with e1 e2; subst e1; exact G.block b hbl (by simp; exact hbB))
      · obtain rfl : q = 0 := by omega
        exact ⟨hx.tail.1, fun i hi => absurd hi (by omega)⟩
    · intro b' o' e _
      injection e with e
      injection e with e1 e2
      exact ⟨o, by rw [e1]⟩

/-- Between two jobs of a line: xs are those that are still to be given, the first of them in block R. -/
structure StC (J : List Int → (Nat → Prop) → World → Prop) (lo B : Nat) (w : World) (rest T : List Int) (xs : List Duo) (X : Option Addr) (d R : Nat) (pre : List Int) (M : Nat → Prop) (wr : World) : Prop where
  job : JobAt wr R (headOf xs).1 (headOf xs).2
  line : LineAt wr B X (xs.length - 1) d
  cap : xs.length - 1 ≤ d
  few : xs.length ≤ 1000000
  rows : HasD wr X (xs.length - 1) xs.tail
  low : ∀ b o, X = some ⟨b, o, none⟩ → 0 < xs.length - 1 → b < lo
  j : J pre M wr
  mB : M B
  mR : M R
  ml : ∀ k, M k → lo ≤ k
  p : pre ++ (xs.map (·.1) ++ rest) = T
  b : Below lo w wr
set_option maxRecDepth 100000 in
set_option maxHeartbeats 4000000 in
theorem byClass_any (m : Nat) (hm : 1 ≤ m) (l B1 g n lo N : Nat) (ls : List (List Duo)) (w : World) (hlo : lo ≤ w.heap.size) (hbox : w.heap[B1]? = some (.cells #[.slice (some ⟨g, 0, none⟩) n n] 59 (0, 0))) (hB1 : B1 < lo) (hgl : g < lo)
    (hls : HasJ w (some ⟨g, 0, none⟩) n ls) (hin : ∀ i b o m' d, i < n → w.cell? ⟨g, i, none⟩ = some (.slice (some ⟨b, o, none⟩) m' d) → b < lo ∧ m' ≤ d ∧ m' ≤ 1000000) (hn : n ≤ 4) (hN : (flatL ls).length ≤ N)
    (J : List Int → (Nat → Prop) → World → Prop) (W : World) (hW : Below lo w W)
    (hJ : ∀ s M X Y, J s M X → Mine M X Y → J s (moreM M X Y) Y)
    (hY : ∀ pre x M W1, J pre M W1 → pre.length < N → YieldAt Fence.wide (m - 1) Try.prog l #[.int .i64 x] W1 fun e W' => e = .returned (.bool true) ∧ J (pre ++ [x]) M W' ∧ Theirs lo M W1 W')
    (h0 : J [] (fun _ => False) W) :
    CallsIn Fence.wide m Try.prog 71 #[.func (.yield l) #[] #[], .pointer (some ⟨B1, 0, none⟩)] W fun e W' => (∃ v, e = .returned v) ∧ ∃ xs M, xs = flatL ls ∧ J xs M W' := by
  have k0 : W.cell? ⟨B1, 0, none⟩ = some (.slice (some ⟨g, 0, none⟩) n n) := (cell_of_row W B1 0 _ _ (0, 0) ((hW.block _ hB1).trans hbox)).trans rfl
  have HIN := Lib.hid hin
  clear hin
  refine callsIn_of_wp Try.func71 rfl trivial ?_ rfl
  simp only [Try.ntmps71, List.size_toArray, List.length_cons, List.length_nil, Nat.reduceAdd, Nat.reduceSub, Array.replicate_succ, Array.replicate_zero, List.push_toArray, List.append_toArray, List.nil_append, List.cons_append]
  gi_wp2
  clear k0
  gi_loopw [9] (fun i wr => ∃ (c : Nat) (pre : List Int) (M : Nat → Prop), c ≤ n ∧ i = .int .i64 (c : Int) ∧ Hid (pre ++ flatL (ls.drop c) = flatL ls) ∧ J pre M wr ∧ (∀ k, M k → lo ≤ k) ∧ Below lo w wr) (fun i _ => n - (intOf i).toNat)
  case atStart =>
    have : Hid ([] ++ flatL (ls.drop 0) = flatL ls) := rfl
    exact ⟨0, [], _, Nat.zero_le _, rfl, this, h0, fun _ h => h.elim, hW⟩
  case round =>
    obtain ⟨c, pre, M, hc, rfl, HP, hJ0, hMl, hB⟩ := hrel
    by_cases hlt : c < n
    rotate_left
    · have hltB : decide ((c : Int) < (n : Int)) = false := by simp; omega
      obtain rfl : c = n := by omega
      have HE := Lib.hid (show pre = flatL ls by have h1 := HP.out; rw [List.drop_of_length_le (by have := hls.len; omega)] at h1; simpa [flatL] using h1)
      gi_wp2
      go_end0
      exact ⟨⟨_, rfl⟩, _, _, HE.out, hJ0⟩
    have hltB : decide ((c : Int) < (n : Int)) = true := by simp; omega
    obtain ⟨b, o, X, q, d, zs, hA, hz, hcell, hD⟩ := hls.2 c hlt
    injection hA with hA
    injection hA with e1 e2
    subst e1 e2
    rw [Nat.zero_add] at hcell
    have k1 : wr.cell? ⟨g, c, none⟩ = some (.slice X q d) := (World.cell?_of_block (show wr.heap[(⟨g, c, none⟩ : Addr).block]? = w.heap[(⟨g, c, none⟩ : Addr).block]? from hB.block g hgl)).trans hcell
    have hXl : ∀ b o, X = some ⟨b, o, none⟩ → b < lo := fun b o e => by subst e; exact (HIN.out c b o q d hlt hcell).1
    have hq0 : 0 < q → ∃ b o, X = some ⟨b, o, none⟩ := fun h => by obtain ⟨b, o, _, _, e, _⟩ := hD.at_ h; exact ⟨b, o, e⟩
    have hqd : q ≤ d ∧ q ≤ 1000000 := by
      by_cases h : 0 < q
      · obtain ⟨b, o, rfl⟩ := hq0 h
        exact (HIN.out c b o q d hlt hcell).2
      · omega
    have hkeep : ∀ {X' : Option Addr} {q' : Nat} {zs' : List Duo} {W1 W2 : World}, HasD W1 X' q' zs' → Below lo W1 W2 → (∀ b o, X' = some ⟨b, o, none⟩ → 0 < q' → b < lo) → HasD W2 X' q' zs' := fun h1 h2 h3 => h1.keep (fun b o e h => h2.block b (h3 b o e h))
    have hDr : HasD wr X q zs := hkeep hD hB (fun b o e _ => hXl b o e)
    have hlow : lo ≤ wr.heap.size := Nat.le_trans hlo hB.size
    have HP1 := Lib.hid (show pre ++ (zs.map (·.1) ++ flatL (ls.drop (c + 1))) = flatL ls by rw [← flatL_drop hz]; exact HP.out)
    obtain ⟨W1, hW1⟩ : ∃ W1, wr.alloc (.cells #[.slice X q d] 62) = W1 := ⟨_, rfl⟩
    have L1 : LineAt W1 wr.heap.size X q d := by rw [← hW1]; exact heap_alloc_new wr _
    have G1 : wr.grownBy W1 none := by rw [← hW1]; exact World.grownBy_alloc _ _ _
    have B1' : Below lo wr W1 := by rw [← hW1]; exact (Below.refl _ _).alloc hlow _
    have J1 := hJ pre M wr W1 hJ0 (Mine.of_grown G1 (fun k e => by cases e))
    obtain ⟨B, hBd⟩ : ∃ B, wr.heap.size = B := ⟨_, rfl⟩
    rw [hBd] at L1
    have hBlo : lo ≤ B := by omega
    have M1 : ∃ M1, J pre M1 W1 ∧ M1 B ∧ ∀ k, M1 k → lo ≤ k := ⟨_, J1, .inr ⟨by omega, L1.lt⟩, fun k hk => hk.elim (hMl k) (fun h => by omega)⟩
    obtain ⟨M1, J1, hMB1, hMl1⟩ := M1
    have hD1 : HasD W1 X q zs := hkeep hDr B1' (fun b o e _ => hXl b o e)
    have BW1 : Below lo w W1 := hB.trans B1'
    have CT := Lib.hid (take_line L1 hD1 hqd.2 hqd.1 (fun b o e _ => by have := hXl b o e; omega))
    have hzl := hD.1
    clear hJ0 hMl hB HP hDr G1 B1' hD1
    gi_wp2_with (fail)
    refine ⟨trivial, ?_⟩
    refine (callsIn_wide.2 CT.out).mono ?_
    rintro e w2 ⟨rfl, G2, X2, d2, L2, hd2, HD2, hX2⟩
    have J2 := hJ pre M1 W1 w2 J1 (Mine.of_grown G2 (fun k e => by cases e; exact hMB1))
    have S2 : ∃ M2, J pre M2 w2 ∧ M2 B ∧ ∀ k, M2 k → lo ≤ k := ⟨_, J2, .inl hMB1, fun k hk => hk.elim (hMl1 k) (fun h => by have := L1.lt; omega)⟩
    obtain ⟨M2, J2, hMB2, hMl2⟩ := S2
    have BW2 : Below lo w w2 := BW1.grown G2 (by have := L1.lt; omega) (fun k e => by cases e; exact hBlo)
    have hs2 := G2.size
    have hBl1 := L1.lt
    have HST0 : ∃ M3, StC J lo B w (flatL (ls.drop (c + 1))) (flatL ls) zs X2 d2 w2.heap.size pre M3 (w2.alloc (.cells #[.int .i64 (headOf zs).1, .int .i64 (headOf zs).2] 86)) := by
      have G3 := World.grownBy_alloc w2 (.cells #[.int .i64 (headOf zs).1, .int .i64 (headOf zs).2] 86) none
      have J3 := hJ pre M2 w2 _ J2 (Mine.of_grown G3 (fun k e => by cases e))
      have hBl2 := L2.lt
      rw [← hzl] at L2 hd2 HD2 hX2
      exact ⟨_, heap_alloc_new w2 _, (Below.heap_alloc _ _ B hBl2).trans L2, hd2, by omega, HD2.bel (below_allocJ w2 _), fun b o e h => by obtain ⟨o', ho⟩ := hX2 b o e h; exact hXl b o' ho, J3, .inl hMB2, .inr ⟨Nat.le_refl _, by simp⟩, fun k hk => hk.elim (hMl2 k) (fun h => by omega), HP1.out, BW2.alloc (by omega) _⟩
    obtain ⟨M3, HS0⟩ := HST0
    have HST := Lib.hid HS0
    clear HS0
    have HQZ := Lib.hid (show decide (0 < q) = decide (0 < zs.length) by rw [hzl])
    rw [HQZ.out]
    clear J1 J2 hMB1 hMl1 hMB2 hMl2 BW1 BW2 L1 L2 HD2 hX2 G2 CT hq0 hqd hXl hcell hz hD hd2 HP1
    generalize headOf zs = hz0 at *
    gi_wp2
    generalize hwb : w2.alloc _ = wb at *
    generalize w2.heap.size = R0 at *
    clear hwb hs2 hBl1 hW1 k1 hBd hlow hltB
    generalize wr = wo at *
    gi_loopw [5, 6] (fun v5 v6 wr => ∃ (xs : List Duo) (X2 : Option Addr) (d2 R : Nat) (pre : List Int) (M : Nat → Prop), v5 = .pointer (some ⟨R, 0, none⟩) ∧ v6 = .bool (decide (0 < xs.length)) ∧ Hid (StC J lo B w (flatL (ls.drop (c + 1))) (flatL ls) xs X2 d2 R pre M wr)) (fun _ v6 wr => okOf v6 + lenAt wr B 0)
    case atStart => exact ⟨zs, X2, d2, R0, pre, M3, rfl, congrArg Value.bool HQZ.out, HST⟩
    case round =>
      clear HST HQZ
      obtain ⟨xs, X2, d2, R, pre, M, rfl, rfl, HST⟩ := hrel
      cases xs with
      | nil =>
        have HP2 := Lib.hid (show pre ++ flatL (ls.drop (c + 1)) = flatL ls from HST.out.p)
        have hJ2 := HST.out.j
        have hM2 := HST.out.ml
        have hB2 := HST.out.b
        have e0 : decide (0 < ([] : List Duo).length) = false := rfl
        rw [e0]
        gi_wp2
        go_roundw
        case rel => exact ⟨c + 1, pre, M, by omega, by go_num, HP2, hJ2, hM2, hB2⟩
        case measure => simp [intOf]; omega
      | cons j xs =>
        have e0 : decide (0 < (j :: xs).length) = true := by simp
        rw [e0]
        obtain ⟨q0, q1, _⟩ := HST.out.job.cells
        obtain ⟨p0, _⟩ := HST.out.line.cells
        have HLA := Lib.hid (lenAt_eq p0)
        have hpl : pre.length < N := by
          have h1 := congrArg List.length HST.out.p
          rw [List.length_append, List.map_cons, List.cons_append, List.length_cons] at h1
          omega
        obtain ⟨fn, tmps, assign, body, hyy, hR⟩ := hY pre j.1 M wr HST.out.j hpl
        have HYR := Lib.hid hR
        clear hR p0
        simp only [headOf, List.headD_cons] at q0 q1
        gi_wp2
        refine HYR.out.mono ?_
        rintro e W4 ⟨rfl, J4, T4⟩
        have S0 := HST.out
        have hlw : lo ≤ wr.heap.size := Nat.le_trans hlo S0.b.size
        have hlW4 : lo ≤ W4.heap.size := Nat.le_trans hlw T4.1.size
        have job4 : JobAt W4 R j.1 j.2 := (T4.2 R S0.mR).trans S0.job
        have line4 : LineAt W4 B X2 xs.length d2 := (T4.2 B S0.mB).trans S0.line
        have rows4 : HasD W4 X2 xs.length xs := hkeep S0.rows T4.1 S0.low
        obtain ⟨z0, z1, _⟩ := job4.cells
        obtain ⟨W5, hW5⟩ : ∃ W5, W4.alloc (.cells #[.int .i64 j.1, .int .i64 j.2] 86) = W5 := ⟨_, rfl⟩
        have G5 : W4.grownBy W5 none := by rw [← hW5]; exact World.grownBy_alloc _ _ _
        have job5 : JobAt W5 W4.heap.size j.1 j.2 := by rw [← hW5]; exact heap_alloc_new W4 _
        have line5 : LineAt W5 B X2 xs.length d2 := (G5.block B line4.lt (by simp)).trans line4
        have B5 : Below lo W4 W5 := by rw [← hW5]; exact (Below.refl _ _).alloc hlW4 _
        have rows5 : HasD W5 X2 xs.length xs := hkeep rows4 B5 S0.low
        have J5 := hJ _ M W4 W5 J4 (Mine.of_grown G5 (fun k e => by cases e))
        have few5 : xs.length ≤ 1000000 := by have h1 := S0.few; simp only [List.length_cons] at h1; omega
        have cap5 : xs.length ≤ d2 := S0.cap
        have low5 : ∀ b o, X2 = some ⟨b, o, none⟩ → 0 < xs.length → b < lo := S0.low
        have CT := Lib.hid (take_line line5 rows5 few5 cap5 (fun b o e h => by have := low5 b o e h; have := hBlo; omega))
        have HST2 := Lib.hid S0
        have HJ5 := Lib.hid J5
        have HT4 := Lib.hid (And.intro (S0.b.trans T4.1) B5)
        obtain ⟨R2, hR2⟩ : ∃ R2, W4.heap.size = R2 := ⟨_, rfl⟩
        rw [hR2] at job5
        have hRB : B < R2 := by have := line4.lt; omega
        clear S0 J4 T4 job4 line4 rows4 B5 rows5 J5 HYR hyy G5 HST
        gi_wp2_with (fail)
        refine ⟨trivial, ?_⟩
        refine (callsIn_wide.2 CT.out).mono ?_
        rintro e w6 ⟨rfl, G6, X3, d3, L6, hd6, HD6, hX6⟩
        have job6 : JobAt w6 R2 j.1 j.2 := (G6.block R2 job5.lt (by simp; omega)).trans job5
        obtain ⟨y0, y1, yf⟩ := job6.cells
        have hmB : moreM M W4 W5 B := .inl HST2.out.mB
        have hmR : moreM M W4 W5 R2 := .inr ⟨by omega, job5.lt⟩
        have J6 := hJ _ _ W5 w6 HJ5.out (Mine.of_grown G6 (fun k e => by cases e; exact hmB))
        have JS : ∀ x y : Int, ∃ M7, J (pre ++ [j.1]) M7 ((w6.setCell ⟨R2, 0, none⟩ (.int .i64 x)).setCell ⟨R2, 1, none⟩ (.int .i64 y)) ∧ M7 B ∧ M7 R2 ∧ ∀ k, M7 k → lo ≤ k := fun x y => by
          have J7 := hJ _ _ w6 _ J6 (Mine.of_grown (gr_trans (set_grownJ w6 R2 0 (.int .i64 x)) (set_grownJ _ R2 1 (.int .i64 y))) (fun k e => by cases e; exact .inl hmR))
          refine ⟨_, J7, .inl (.inl hmB), .inl (.inl hmR), fun k hk => ?_⟩
          rcases hk with ((hk | hk) | hk) | hk
          · exact HST2.out.ml k hk
          · omega
          · have := G6.size; have := line5.lt; omega
          · have := G6.size; have := line5.lt; omega
        obtain ⟨M7, J7, hB7, hR7, hM7⟩ := JS (headOf xs).1 (headOf xs).2
        have HN : ∃ XX dd, StC J lo B w (flatL (ls.drop (c + 1))) (flatL ls) xs XX dd R2 (pre ++ [j.1]) M7 ((w6.setCell ⟨R2, 0, none⟩ (.int .i64 (headOf xs).1)).setCell ⟨R2, 1, none⟩ (.int .i64 (headOf xs).2)) := by
          have GS := gr_trans (set_grownJ w6 R2 0 (.int .i64 (headOf xs).1)) (set_grownJ (w6.setCell ⟨R2, 0, none⟩ (.int .i64 (headOf xs).1)) R2 1 (.int .i64 (headOf xs).2))
          have h5 := line5.lt
          have h6 := L6.lt
          have BB : Below lo w6 ((w6.setCell ⟨R2, 0, none⟩ (.int .i64 (headOf xs).1)).setCell ⟨R2, 1, none⟩ (.int .i64 (headOf xs).2)) := below_of_grown GS (by omega) (fun k e => by cases e; omega)
          have BC : Below lo W5 w6 := below_of_grown G6 (by omega) (fun k e => by cases e; omega)
          have lowX : ∀ b o, X3 = some ⟨b, o, none⟩ → 0 < xs.length - 1 → b < lo := fun b o e h => by obtain ⟨o', ho⟩ := hX6 b o e h; exact low5 b o' ho (by omega)
          refine ⟨X3, d3, two_cellsJ job6 _ _, (GS.block B h6 (by simp; omega)).trans L6, hd6, few5, hkeep HD6 BB lowX, lowX, J7, hB7, hR7, hM7, ?_, ((HT4.out.1.trans HT4.out.2).trans BC).trans BB⟩
          have := HST2.out.p
          rw [List.map_cons, List.cons_append] at this
          rw [List.append_assoc, List.singleton_append]
          exact this
        obtain ⟨XX, dd, HN⟩ := HN
        have HNN := Lib.hid HN
        have HLB := Lib.hid (lenAt_eq HN.line.cells.1)
        have eL : (if 0 < xs.length then 1 else 0) + (xs.length - 1) < xs.length + 1 := by split <;> omega
        clear HN J7 JS J6 hmB hmR CT
        have okE : okOf (.bool (decide (0 < xs.length))) = if 0 < xs.length then 1 else 0 := by split <;> rename_i h <;> simp [okOf, h]
        have HOK := Lib.hid okE
        clear okE
        gi_wp2
        go_roundw
        case rel => exact ⟨xs, XX, dd, R2, _, M7, rfl, rfl, HNN⟩
        case measure =>
          rw [HOK.out, HLB.out, HLA.out]
          have : okOf (.bool true) = 1 := rfl
          simp only [this, List.length_cons]
          omega
theorem byClass_mem (m : Nat) (hm : 1 ≤ m) {B1 g n N : Nat} {ls : List (List Duo)} {w : World} (hbox : w.heap[B1]? = some (.cells #[.slice (some ⟨g, 0, none⟩) n n] 59 (0, 0)))
    (hls : HasJ w (some ⟨g, 0, none⟩) n ls) (hgl : g < w.heap.size) (hin : ∀ i b o m' d, i < n → w.cell? ⟨g, i, none⟩ = some (.slice (some ⟨b, o, none⟩) m' d) → b < w.heap.size ∧ m' ≤ d ∧ m' ≤ 1000000) (hn : n ≤ 4) (hN : (flatL ls).length ≤ N) :
    SeqMem Fence.wide m Try.prog 71 #[.pointer (some ⟨B1, 0, none⟩)] (fun x : Int => #[Value.int .i64 x]) w.heap.size (fun ys => ys = flatL ls) N w := fun l J W hW hJ _ hY h0 =>
  byClass_any m hm l B1 g n w.heap.size N ls w (Nat.le_refl _) hbox (Array.getElem?_eq_some_iff.1 hbox).1 hgl hls hin hn hN J W hW hJ hY h0
theorem byClass_made {A : Option Addr} {n c : Nat} (w : World) :
    Calls Try.prog 56 #[.slice A n c] w fun e w' => e = .returned (.func (.func 71) #[] #[.pointer (some ⟨w.heap.size, 0, none⟩)]) ∧ w' = w.alloc (.cells #[.slice A n c] 59) := by
  go_enter Try.func56, Try.ntmps56
  go_wp2
  go_ret
  exact ⟨rfl, rfl⟩
theorem flat_lines (js : List Duo) (nc m : Nat) : flatL (linesTo js nc m) = ((List.range nc).map (fun c => (idxs js c m).map Int.ofNat)).flatten := by
  unfold flatL linesTo
  rw [List.map_map]
  congr 1
  apply List.map_congr_left
  intro c _
  exact lineTo_fst js c m
/-- Lines that a call made, as an iterator finds them. -/
theorem lines_in {w : World} {lo g n : Nat} {vs : List Value} {js : List Duo} {m : Nat} (h : OwnVJ w lo g n vs (linesTo js n m)) (hm : m ≤ 60) {i b o m' d : Nat} (hi : i < n) (hc : w.cell? ⟨g, i, none⟩ = some (.slice (some ⟨b, o, none⟩) m' d)) : b < w.heap.size ∧ m' ≤ d ∧ m' ≤ 1000000 := by
  obtain ⟨u, hu, hd, _⟩ := h.1.at_ hi
  rw [hc] at hd
  injection hd with hd
  subst hd
  obtain ⟨B, q, c, hB, hO⟩ := h.2.2.1 i _ _ hu (linesTo_at js n m i hi)
  injection hB with e1 e2 e3
  subst e1 e2 e3
  have h1 := (ownD_block hO (b := b) rfl).2
  have h2 := hO.cap
  have h3 := hO.len
  have h4 : (lineTo js i m).length = (idxs js i m).length := by unfold lineTo; simp
  have h5 := idxs_len js i m
  exact ⟨h1, h2, by omega⟩
set_option maxRecDepth 100000 in
set_option maxHeartbeats 4000000 in
theorem implStrictOrder_r {A B : Option Addr} {n c m d : Nat} {ws : List Int} {js : List Duo} {w : World} {r : List Int} (h : Has w A n (ints .i64 ws)) (hj : HasD w B m js) (hn : n ≤ 16777216) (hm : m ≤ 16777216) (hr : strictL ws js = r) :
    Calls Try.prog 24 #[.slice A n c, .slice B m d] w fun e w' => ∃ A' n' c', e = .returned (.slice A' n' c') ∧ Own w' w.heap.size 3 A' n' c' (ints .i64 r) ∧ Below w.heap.size w w' := by
  have HL := Lib.hid h.len
  have HJ := Lib.hid hj.1
  have HR := Lib.hid hr
  clear hr
  by_cases hok : jobsOk ws js
  rotate_left
  · have HE := Lib.hid (show strictL ws js = [] from if_neg hok)
    have C := Lib.hid (implJobsValid_b (c := c) (d := d) h hj hn hm (decide_eq_false hok))
    clear hok
    go_enter Try.func24, Try.ntmps24
    go_wp2_with (fail)
    refine C.out.mono ?_
    rintro e w1 ⟨rfl, B1⟩
    go_wp2
    go_ret
    exact ⟨_, _, _, rfl, by rw [← HR.out, HE.out]; exact World.ownsRow_nil _ _ _ _, B1⟩
  have C := Lib.hid (implJobsValid_b (c := c) (d := d) h hj hn hm (decide_eq_true hok))
  have HK := Lib.hid hok
  have hm60 : m ≤ 60 := by have := hok.2.2; have := HJ.out; omega
  have hn4 : n ≤ 4 := by have := hok.2.1.2.2; have := HL.out; omega
  have HE := Lib.hid (show flatL (linesTo js n m) = r by rw [← HR.out, flat_lines, ← HL.out, ← HJ.out]; unfold strictL; rw [if_pos hok])
  have HF := Lib.hid (show (flatL (linesTo js n m)).length ≤ 240 by
    rw [flat_lines, ← HJ.out]
    have h1 := strictTo_len js n
    have h2 := Nat.mul_le_mul hn4 (show js.length ≤ 60 by have := HJ.out; omega)
    exact Nat.le_trans h1 h2)
  clear hok
  go_enter Try.func24, Try.ntmps24
  go_wp2_with (fail)
  refine C.out.mono ?_
  rintro e w1 ⟨rfl, B1⟩
  go_wp2_with (fail)
  refine (linesOf_any (hj.bel B1) HL.out HK.out).mono ?_
  rintro e w2 ⟨g, vs, rfl, O2, B2⟩
  go_wp2_with (fail)
  refine (byClass_made w2).mono ?_
  rintro e w3 ⟨rfl, hw3⟩
  have B3 : Below w2.heap.size w2 w3 := by rw [hw3]; exact below_allocJ w2 _
  have hbox : w3.heap[w2.heap.size]? = some (.cells #[.slice (some ⟨g, 0, none⟩) n n] 59 (0, 0)) := by rw [hw3]; exact heap_alloc_new w2 _
  have O3 := O2.bel B3
  have CC := Lib.hid (collect_mem 71 #[.pointer (some ⟨w2.heap.size, 0, none⟩)] (fun args w => by kernel_rfl) (fun ys => ys = flatL (linesTo js n m)) 240 (by decide) w3 (byClass_mem 4 (by decide) hbox O3.has O3.1.block.2 (fun i b o m' d hi hc => lines_in O3 hm60 hi hc) hn4 HF.out))
  have B13 := bel_trans (bel_trans B1 B2) B3
  clear O2 O3 hw3 hbox B1 B2 B3
  go_wp2_with (fail)
  refine CC.out.mono ?_
  rintro e w4 ⟨A', n', c', xs, rfl, rfl, O4, B4⟩
  go_wp2
  go_ret
  exact ⟨_, _, _, rfl, by rw [← HE.out]; exact O4.mono B13.size, bel_trans B13 B4⟩
end Go.Proofs.Ytpofkkenbepjpaa
