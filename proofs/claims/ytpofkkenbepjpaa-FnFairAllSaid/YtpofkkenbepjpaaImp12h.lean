/-
  Chapter 12's program, classes in turn: what is proved here is what the iterator of a ring of classes gives. Condition: up to 1000 classes.
-/
import Derived.Test.YtpofkkenbepjpaaImp12g
namespace Go.Proofs.Ytpofkkenbepjpaa
open Go.RowKit Go.Shelf

attribute [local go_sem] Oper.semAt_some

/-- A class as it lies in a slice, and as it is thought of. -/
def TvTc (w : World) (lo : Nat) (tv : TV) (tc : TC) : Prop :=
  tv.1 = tc.1 ∧ tv.2.1 = tc.2.1 ∧ ∃ X q d, tv.2.2 = .slice X q d ∧ HasD w X q tc.2.2 ∧ q ≤ d ∧ q ≤ 1000000 ∧ ∀ b o, X = some ⟨b, o, none⟩ → 0 < q → b < lo
inductive RingL (w : World) (lo : Nat) : List TV → List TC → Prop
  | nil : RingL w lo [] []
  | cons {tv : TV} {tc : TC} {tvs : List TV} {tcs : List TC} : TvTc w lo tv tc → RingL w lo tvs tcs → RingL w lo (tv :: tvs) (tc :: tcs)
theorem RingL.snoc {w : World} {lo : Nat} {tvs : List TV} {tcs : List TC} {tv : TV} {tc : TC} (h : RingL w lo tvs tcs) (ht : TvTc w lo tv tc) : RingL w lo (tvs ++ [tv]) (tcs ++ [tc]) := by
  induction h with
  | nil => exact .cons ht .nil
  | cons h1 _ ih => exact .cons h1 ih
theorem RingL.len {w : World} {lo : Nat} {tvs : List TV} {tcs : List TC} (h : RingL w lo tvs tcs) : tvs.length = tcs.length := by
  induction h with
  | nil => rfl
  | cons _ _ ih => simp [ih]
theorem RingL.ones {w : World} {lo : Nat} {tvs : List TV} {tcs : List TC} (h : RingL w lo tvs tcs) : ∀ t ∈ tvs, t.2.2.oneCell' = true := by
  induction h with
  | nil => intro t ht; cases ht
  | cons h1 _ ih =>
    intro t ht
    rcases List.mem_cons.1 ht with rfl | ht
    · obtain ⟨_, _, X, q, d, e, _⟩ := h1; rw [e]; rfl
    · exact ih t ht
/-- How many jobs and classes a ring has, read off the memory. -/
def measF (W : World) (b : Nat) : Nat → Nat → Nat
  | _, 0 => 0
  | off, n + 1 => 1 + lenAt W b (off + 2) + measF W b (off + 3) n
def measV (W : World) : Value → Nat
  | .slice (some a) n _ => measF W a.block a.off n
  | _ => 0
theorem meas_need {W w : World} {lo b : Nat} {tvs : List TV} {tcs : List TC} (h : RingL w lo tvs tcs) : ∀ {off n c : Nat}, RingAt W b off n c tvs → measF W b off n = needL tcs := by
  induction h with
  | nil =>
    intro off n c hR
    obtain rfl : n = 0 := by have := hR.2.1; simpa using this.symm
    rfl
  | @cons tv tc tvs tcs h1 _ ih =>
    intro off n c hR
    obtain ⟨n, rfl⟩ : ∃ n', n = n' + 1 := ⟨tvs.length, by have := hR.2.1; simpa using this.symm⟩
    obtain ⟨c, rfl⟩ : ∃ c', c = c' + 1 := ⟨c - 1, by have := hR.2.2.1; omega⟩
    obtain ⟨_, _, X, q, d, e, hD, _⟩ := h1
    have h3 := hR.head.2.2
    rw [e] at h3
    rw [measF, needL, ih hR.tail, lenAt_eq h3, ← hD.1]
theorem cells3T {w : World} {B : Nat} {x y z : Value} {t : TypeId} (h : w.heap[B]? = some (.cells #[x, y, z] t (0, 0))) :
    w.cell? ⟨B, 0, none⟩ = some x ∧ w.cell? ⟨B, 1, none⟩ = some y ∧ w.cell? ⟨B, 2, none⟩ = some z :=
  ⟨(cell_of_row w B 0 _ t (0, 0) h).trans rfl, (cell_of_row w B 1 _ t (0, 0) h).trans rfl, (cell_of_row w B 2 _ t (0, 0) h).trans rfl⟩
theorem ring_next {f : Nat} {c : TC} {left : List TC} (h : needL (c :: left) ≤ f) : ∃ f', f = f' + 1 ∧ ringRun f (c :: left) = contRun f' c.1 left (c.2.1 + c.1) c.2.2 ∧ needL left + c.2.2.length ≤ f' := by
  cases f with
  | zero => have := need_pos c left; omega
  | succ f => exact ⟨f, rfl, rfl, by rw [needL] at h; omega⟩

def RingV (W : World) (v : Value) (ts : List TV) : Prop := ∃ b off n c, v = .slice (some ⟨b, off, none⟩) n c ∧ n ≤ 499 ∧ RingAt W b off n c ts
theorem RingV.keep {W W' : World} {v : Value} {ts : List TV} (h : RingV W v ts) (he : ∀ b, v.ownBlock = some b → W'.heap[b]? = W.heap[b]?) : RingV W' v ts := by
  obtain ⟨b, off, n, c, rfl, h5, hR⟩ := h
  exact ⟨b, off, n, c, rfl, h5, hR.keep (he b rfl)⟩
/-- Between two turns. -/
structure StO (J : List Int → (Nat → Prop) → World → Prop) (lo : Nat) (w : World) (T : List Int) (b off n c : Nat) (tvs : List TV) (tcs : List TC) (f : Nat) (pre : List Int) (M : Nat → Prop) (wr : World) : Prop where
  ring : RingAt wr b off n c tvs
  rl : RingL w lo tvs tcs
  ok : ringOk tcs
  need : needL tcs ≤ f
  few : n ≤ 500
  p : pre ++ ringRun f tcs = T
  j : J pre M wr
  mb : M b
  ml : ∀ k, M k → lo ≤ k
  b : Below lo w wr
/-- Between two jobs of a turn: if ok, job x in block R is still to be given; n0 jobs were left when the turn began. -/
structure StD (J : List Int → (Nat → Prop) → World → Prop) (lo B n0 : Nat) (w : World) (T : List Int) (f : Nat) (g : Int) (lefts : List TC) (tvs : List TV) (vL : Value) (ok : Bool) (x y k : Int) (l : List Duo) (X : Option Addr) (q d R : Nat) (pre : List Int) (M : Nat → Prop) (wr : World) : Prop where
  job : JobAt wr R x y
  tc : TcAt wr B g k X q d
  rows : HasD wr X q l
  cap : q ≤ d
  few : q ≤ 1000000
  low : ∀ b o, X = some ⟨b, o, none⟩ → 0 < q → b < lo
  kb : 0 ≤ k ∧ k ≤ 89
  lok : lineOk l
  ring : RingV wr vL tvs
  j : J pre M wr
  mB : M B
  mR : M R
  mL : ∀ b, vL.ownBlock = some b → M b
  ml : ∀ k, M k → lo ≤ k
  st : l.length < n0 ∨ (9 ≤ k ∧ l.length = n0)
  p : (ok = true ∧ pre ++ (x :: contRun f g lefts k l) = T) ∨ (ok = false ∧ stopL k l ∧ pre ++ contRun f g lefts k l = T)
  b : Below lo w wr
/-- What do returned, told of the jobs that are still to be given. -/
theorem cont_do {f : Nat} {g : Int} {lefts : List TC} {k k' x y : Int} {l l' : List Duo} {ok : Bool} {pre T : List Int} (hp : pre ++ contRun f g lefts k l = T) (h : (ok = true ∧ l = (x, y) :: l' ∧ y ≤ k ∧ k' = k - y) ∨ (ok = false ∧ l' = l ∧ k' = k ∧ stopL k l)) :
    (ok = true ∧ pre ++ (x :: contRun f g lefts k' l') = T) ∨ (ok = false ∧ stopL k' l' ∧ pre ++ contRun f g lefts k' l' = T) := by
  rcases h with ⟨h1, rfl, h3, rfl⟩ | ⟨h1, rfl, rfl, h4⟩
  · rw [contRun_do f g lefts k (x, y) l' h3] at hp
    exact .inl ⟨h1, hp⟩
  · exact .inr ⟨h1, h4, hp⟩

set_option maxRecDepth 100000 in
set_option maxHeartbeats 8000000 in
theorem order_any (m : Nat) (hm : 1 ≤ m) (l B1 g0 n c lo N : Nat) (tvs0 : List TV) (tcs0 : List TC) (T : List Int) (w : World) (hlo : lo ≤ w.heap.size) (hbox : w.heap[B1]? = some (.cells #[.slice (some ⟨g0, 0, none⟩) n c] 58 (0, 0))) (hB1 : B1 < lo) (hgl : g0 < lo)
    (hR0 : RingAt w g0 0 n c tvs0) (hRL0 : RingL w lo tvs0 tcs0) (hok0 : ringOk tcs0) (h0n : 0 < n) (hn : n ≤ 4) (hT : ringRun (needL tcs0) tcs0 = T) (hN : T.length ≤ N)
    (J : List Int → (Nat → Prop) → World → Prop) (W : World) (hW : Below lo w W) (hlw : lo ≤ W.heap.size)
    (hJ : ∀ s M X Y, J s M X → Mine M X Y → J s (moreM M X Y) Y)
    (hY : ∀ pre x M W1, J pre M W1 → pre.length < N → YieldAt Fence.wide (m - 1) Try.prog l #[.int .i64 x] W1 fun e W' => e = .returned (.bool true) ∧ J (pre ++ [x]) M W' ∧ Theirs lo M W1 W')
    (h0 : J [] (fun _ => False) W) :
    CallsIn Fence.wide m Try.prog 66 #[.func (.yield l) #[] #[], .pointer (some ⟨B1, 0, none⟩)] W fun e W' => (∃ v, e = .returned v) ∧ ∃ xs M, xs = T ∧ J xs M W' := by
  have k0 : W.cell? ⟨B1, 0, none⟩ = some (.slice (some ⟨g0, 0, none⟩) n c) := (cell_of_row W B1 0 _ _ (0, 0) ((hW.block _ hB1).trans hbox)).trans rfl
  have hRW := hR0.keep (hW.block _ hgl)
  have CC := Lib.hid (clone_any hRW h0n (by omega) hRL0.ones)
  refine callsIn_of_wp Try.func66 rfl trivial ?_ rfl
  simp only [Try.ntmps66, List.size_toArray, List.length_cons, List.length_nil, Nat.reduceAdd, Nat.reduceSub, Array.replicate_succ, Array.replicate_zero, List.push_toArray, List.append_toArray, List.nil_append, List.cons_append]
  gi_wp2_with (fail)
  refine ⟨trivial, ?_⟩
  refine (callsIn_wide.2 CC.out).mono ?_
  rintro e w1 ⟨b0, cap0, rfl, R1, hb0, BC⟩
  have J1 := hJ [] _ W w1 h0 ⟨BC.os, BC.tape, BC.output, BC.size, fun k hk _ => BC.block k hk⟩
  have HS0 : ∃ M0, StO J lo w T b0 0 n cap0 tvs0 tcs0 (needL tcs0) [] M0 w1 :=
    ⟨_, R1, hRL0, hok0, Nat.le_refl _, by omega, by rw [List.nil_append]; exact hT, J1, .inr ⟨hb0, R1.lt⟩, fun k hk => hk.elim (fun h => h.elim) (fun h => by omega), hW.trans (BC.mono hlw)⟩
  obtain ⟨M0, HS0⟩ := HS0
  have HST0 := Lib.hid HS0
  clear HS0 J1 R1 CC k0 hRW BC hRL0 hok0 hT
  gi_wp2
  gi_loopw [3] (fun v wr => ∃ (b off nl cl : Nat) (tvs : List TV) (tcs : List TC) (f : Nat) (pre : List Int) (M : Nat → Prop), v = .slice (some ⟨b, off, none⟩) nl cl ∧ Hid (StO J lo w T b off nl cl tvs tcs f pre M wr)) (fun v wr => measV wr v)
  case atStart => exact ⟨b0, 0, n, cap0, tvs0, tcs0, _, [], M0, rfl, HST0⟩
  case round =>
    clear HST0
    obtain ⟨b, off, nl, cl, tvs, tcs, f, pre, M, rfl, HS⟩ := hrel
    cases tcs with
    | nil =>
      have hnl : nl = 0 := by have h1 := HS.out.ring.2.1; have h2 := HS.out.rl.len; rw [h2] at h1; simpa using h1.symm
      subst hnl
      have HE := Lib.hid (show pre = T by have h1 := HS.out.p; cases f <;> simpa [ringRun] using h1)
      have hJf := HS.out.j
      gi_wp2
      go_end0
      exact ⟨⟨_, rfl⟩, _, _, HE.out, hJf⟩
    | cons tc tcs =>
      obtain ⟨tv, tvs', htv, hTV, hRL⟩ : ∃ tv tvs', tvs = tv :: tvs' ∧ TvTc w lo tv tc ∧ RingL w lo tvs' tcs := by
        have h1 := HS.out.rl
        cases h1 with
        | cons h1 h2 => exact ⟨_, _, rfl, h1, h2⟩
      subst htv
      obtain ⟨g', k', l0⟩ := tc
      obtain ⟨g, k, v0⟩ := tv
      obtain ⟨e1, e2, X, q, d, e3, hD, hqd, hq6, hXl⟩ := hTV
      simp only at e1 e2 e3 hD
      subst e1 e2 e3
      obtain ⟨nl, rfl⟩ : ∃ n', nl = n' + 1 := ⟨tvs'.length, by have := HS.out.ring.2.1; simpa using this.symm⟩
      obtain ⟨cl, rfl⟩ : ∃ c', cl = c' + 1 := ⟨cl - 1, by have := HS.out.ring.2.2.1; omega⟩
      have S := HS.out
      obtain ⟨c0, c1, c2⟩ := S.ring.head
      simp only at c0 c1 c2
      obtain ⟨o1, o2, o3, o4, o5⟩ := S.ok (g, k, l0) (by simp)
      simp only at o1 o2 o3 o4 o5
      obtain ⟨f', rfl, hrn, hnd⟩ := ring_next S.need
      have HM := Lib.hid (show measV wr (.slice (some ⟨b, off, none⟩) (nl + 1) (cl + 1)) = 1 + l0.length + needL tcs from meas_need S.rl S.ring)
      have HP := Lib.hid (show pre ++ contRun f' g tcs (k + g) l0 = T by have := S.p; rw [hrn] at this; exact this)
      have HND := Lib.hid hnd
      have HOK := Lib.hid (show ringOk tcs from fun x hx => S.ok x (by simp [hx]))
      have HRL := Lib.hid hRL
      have hlw2 : lo ≤ wr.heap.size := Nat.le_trans hlo S.b.size
      have hbl := S.ring.lt
      have hnl5 : nl ≤ 499 := by have := S.few; omega
      have hkeep : ∀ {X' : Option Addr} {q' : Nat} {zs' : List Duo} {W1 W2 : World}, HasD W1 X' q' zs' → Below lo W1 W2 → (∀ b o, X' = some ⟨b, o, none⟩ → 0 < q' → b < lo) → HasD W2 X' q' zs' := fun h1 h2 h3 => h1.keep (fun b o e h => h2.block b (h3 b o e h))
      obtain ⟨W1, hW1⟩ : ∃ W1, wr.alloc (.cells #[.int .i64 g, .int .i64 k, .slice X q d] 64) = W1 := ⟨_, rfl⟩
      have T1 : TcAt W1 wr.heap.size g k X q d := by rw [← hW1]; exact heap_alloc_new wr _
      have G1 : wr.grownBy W1 none := by rw [← hW1]; exact World.grownBy_alloc _ _ _
      have B1' : Below lo wr W1 := by rw [← hW1]; exact (Below.refl _ _).alloc hlw2 _
      have J1 := hJ pre M wr W1 S.j (Mine.of_grown G1 (fun k e => by cases e))
      obtain ⟨B, hBd⟩ : ∃ B, wr.heap.size = B := ⟨_, rfl⟩
      rw [hBd] at T1
      have hBlo : lo ≤ B := by omega
      have HM1 : ∃ M1, J pre M1 W1 ∧ M1 B ∧ M1 b ∧ ∀ k, M1 k → lo ≤ k := ⟨_, J1, .inr ⟨by omega, T1.lt⟩, .inl S.mb, fun k hk => hk.elim (S.ml k) (fun h => by omega)⟩
      obtain ⟨M1, J1', hMB1, hMb1, hMl1⟩ := HM1
      have hbB : b ≠ B := by omega
      have CG := Lib.hid (gain_any T1 ⟨by omega, o2⟩ ⟨o3, o4⟩)
      have BW1 : Below lo w W1 := S.b.trans B1'
      obtain ⟨off2, hcl⟩ : ∃ off2, (cl = 0 ∧ off2 = off) ∨ (∃ c2, cl = c2 + 1 ∧ off2 = off + 3) := by
        cases cl with
        | zero => exact ⟨_, .inl ⟨rfl, rfl⟩⟩
        | succ c2 => exact ⟨_, .inr ⟨c2, rfl, rfl⟩⟩
      have hR2 : RingAt W1 b off2 nl cl tvs' ∧ (cl = 0 → nl = 0) := by
        have hR := S.ring.keep (G1.block b hbl (by simp))
        refine ⟨?_, fun h => by have := hR.2.2.1; omega⟩
        rcases hcl with ⟨rfl, rfl⟩ | ⟨c2, rfl, rfl⟩
        · obtain rfl : nl = 0 := by have := hR.2.2.1; omega
          obtain rfl : tvs' = [] := by have := hR.2.1; simpa using this
          exact ringAt_none hR
        · exact hR.tail
      obtain ⟨hR2, hnc⟩ := hR2
      obtain ⟨vL, hvL⟩ : ∃ vL, vL = Value.slice (some ⟨b, off2, none⟩) nl cl := ⟨_, rfl⟩
      have HRV := Lib.hid (show RingV W1 vL tvs' from ⟨b, off2, nl, cl, hvL, hnl5, hR2⟩)
      have HVL := Lib.hid hvL
      have hMv : ∀ b', vL.ownBlock = some b' → b' = b := fun b' e => by rw [hvL] at e; injection e with e; exact e.symm
      have HMV := Lib.hid hMv
      clear hvL hMv hR2 J1 S HS hRL hrn hnd
      rcases hcl with ⟨rfl, rfl⟩ | ⟨c2, rfl, rfl⟩
      all_goals (try obtain rfl := hnc rfl)
      all_goals clear hnc
      all_goals
        gi_wp2_with (fail)
        refine ⟨trivial, ?_⟩
        refine (callsIn_wide.2 CG.out).mono ?_
        rintro e w2 ⟨rfl, T2, G2⟩
        have HS2 : ∃ M2, J pre M2 w2 ∧ M2 B ∧ M2 b ∧ (∀ k, M2 k → lo ≤ k) ∧ Below lo w w2 ∧ RingV w2 vL tvs' ∧ HasD w2 X q l0 := by
          have J2 := hJ pre M1 W1 w2 J1' (Mine.of_grown G2 (fun k e => by cases e; exact hMB1))
          have B2 : Below lo W1 w2 := below_of_grown G2 (by have := T1.lt; omega) (fun k e => by cases e; exact hBlo)
          refine ⟨_, J2, .inl hMB1, .inl hMb1, fun k hk => hk.elim (hMl1 k) (fun h => by have := T1.lt; omega), BW1.trans B2, HRV.out.keep (fun b' e => G2.block b' (by rw [HMV.out b' e]; have := G1.size; omega) (by rw [HMV.out b' e]; simp; exact hbB)), hkeep hD (BW1.trans B2) hXl⟩
        obtain ⟨M2, J2, hMB2, hMb2, hMl2, BW2, HRV2, hD2⟩ := HS2
        have CD := Lib.hid (do_line T2 hD2 hq6 hqd (show 0 ≤ k + g ∧ k + g ≤ 89 by omega) o5 (fun b' o' e h => by have := hXl b' o' e h; omega))
        clear CG
        gi_wp2_with (fail)
        refine ⟨trivial, ?_⟩
        refine (callsIn_wide.2 CD.out).mono ?_
        rintro e w3 ⟨ok, x, y, k2, l2, X2, q2, d2, rfl, G3, T3, D3, hqd3, hX3, hdo⟩
        have HS3 : ∃ M3, StD J lo B l0.length w T f' g tcs tvs' vL ok x y k2 l2 X2 q2 d2 w3.heap.size pre M3 (w3.alloc (.cells #[.int .i64 x, .int .i64 y] 86)) := by
          have J3 := hJ pre M2 w2 w3 J2 (Mine.of_grown G3 (fun k e => by cases e; exact hMB2))
          have J4 := hJ pre _ w3 _ J3 (Mine.of_grown (World.grownBy_alloc w3 (.cells #[.int .i64 x, .int .i64 y] 86) none) (fun k e => by cases e))
          have hs1 := T1.lt
          have hs2 := T2.lt
          have hs3 := T3.lt
          have B3 : Below lo w2 w3 := below_of_grown G3 (by omega) (fun k e => by cases e; exact hBlo)
          have hll : l2.length ≤ l0.length := by rcases hdo with ⟨_, h2, _⟩ | ⟨_, h2, _⟩ <;> rw [h2] <;> simp
          have hlq := D3.1
          have hlq0 := hD2.1
          refine ⟨_, heap_alloc_new w3 _, (Below.heap_alloc _ _ B hs3).trans T3, D3.bel (below_allocJ w3 _), hqd3, by omega, fun b' o' e h => by obtain ⟨o2', e2', h2'⟩ := hX3 b' o' e h; exact hXl b' o2' e2' h2', ?_, ?_, ?_, J4, .inl (.inl hMB2), .inr ⟨Nat.le_refl _, by simp⟩, fun b' e => by rw [HMV.out b' e]; exact .inl (.inl hMb2), ?_, ?_, cont_do HP.out hdo, ((BW2.trans B3).alloc (by omega) _)⟩
          · rcases hdo with ⟨_, h2, h3, h4⟩ | ⟨_, _, h4, _⟩
            · have h5 := o5 (x, y) (by rw [h2]; simp)
              simp only at h5
              omega
            · omega
          · rcases hdo with ⟨_, h2, _⟩ | ⟨_, h2, _⟩
            · exact fun z hz => o5 z (by rw [h2]; simp [hz])
            · rw [h2]; exact o5
          · exact HRV2.keep (fun b' e => by
              rw [HMV.out b' e]
              have hbw2 : b < w2.heap.size := by have := G1.size; have := G2.size; omega
              exact (Below.heap_alloc _ _ b (by have := G3.size; omega)).trans (G3.block b hbw2 (by simp; exact hbB)))
          · intro k' hk'
            rcases hk' with (hk' | hk') | hk'
            · exact hMl2 k' hk'
            · omega
            · have := G3.size; omega
          · rcases hdo with ⟨_, h2, _⟩ | ⟨_, h2, h3, _⟩
            · rw [h2]; exact .inl (by simp)
            · rw [h2, h3]; exact .inr ⟨by omega, rfl⟩
        obtain ⟨M3, HS3⟩ := HS3
        have HST := Lib.hid HS3
        clear HS3 J2 hMB2 hMb2 hMl2 BW2 HRV2 hD2 CD G3 T3 D3 hqd3 hX3 hdo T2 G2
        gi_wp2
        generalize hwb : w3.alloc _ = wb at *
        generalize w3.heap.size = R0 at *
        clear hwb
        generalize hwo : wr = wo at *
        have HWO := Lib.hid hwo
        clear hwo
        gi_loopw [5, 6] (fun v5 v6 wr => ∃ (ok : Bool) (x y k : Int) (l : List Duo) (X : Option Addr) (q d R : Nat) (pre : List Int) (M : Nat → Prop), v5 = .pointer (some ⟨R, 0, none⟩) ∧ v6 = .bool ok ∧ Hid (StD J lo B l0.length w T f' g tcs tvs' vL ok x y k l X q d R pre M wr)) (fun _ v6 wr => okOf v6 + lenAt wr B 2)
        case atStart => exact ⟨ok, x, y, k2, l2, X2, q2, d2, R0, pre, M3, rfl, rfl, HST⟩
        case round =>
          clear HST
          obtain ⟨ok, x, y, k3, l3, X3, q3, d3, R, pre3, M, rfl, rfl, HST⟩ := hrel
          have S := HST.out
          obtain ⟨q0, q1, qf⟩ := S.job.cells
          obtain ⟨p0, p1, p2, pf⟩ := S.tc.cells
          have HLA := Lib.hid (lenAt_eq p2)
          have hBl := S.tc.lt
          cases ok with
          | true =>
            have HP3 := Lib.hid (show pre3 ++ (x :: contRun f' g tcs k3 l3) = T from S.p.elim (fun h => h.2) (fun h => by cases h.1))
            have hpl : pre3.length < N := by
              have h1 := congrArg List.length HP3.out
              rw [List.length_append, List.length_cons] at h1
              omega
            obtain ⟨fn, tmps, assign, body, hyy, hYR⟩ := hY pre3 x M wr S.j hpl
            have HYR := Lib.hid hYR
            clear hYR S p0 p1 p2 pf qf
            gi_wp2
            refine HYR.out.mono ?_
            rintro e W4 ⟨rfl, J4, T4⟩
            have S0 := HST.out
            have hlw3 : lo ≤ wr.heap.size := Nat.le_trans hlo S0.b.size
            have hlW4 : lo ≤ W4.heap.size := Nat.le_trans hlw3 T4.1.size
            have job4 : JobAt W4 R x y := (T4.2 R S0.mR).trans S0.job
            have tc4 : TcAt W4 B g k3 X3 q3 d3 := (T4.2 B S0.mB).trans S0.tc
            have rows4 : HasD W4 X3 q3 l3 := hkeep S0.rows T4.1 S0.low
            have ring4 : RingV W4 vL tvs' := S0.ring.keep (fun b' e => T4.2 b' (S0.mL b' e))
            obtain ⟨z0, z1, _⟩ := job4.cells
            obtain ⟨W5, hW5⟩ : ∃ W5, W4.alloc (.cells #[.int .i64 x, .int .i64 y] 86) = W5 := ⟨_, rfl⟩
            have G5 : W4.grownBy W5 none := by rw [← hW5]; exact World.grownBy_alloc _ _ _
            have job5 : JobAt W5 W4.heap.size x y := by rw [← hW5]; exact heap_alloc_new W4 _
            have tc5 : TcAt W5 B g k3 X3 q3 d3 := (G5.block B tc4.lt (by simp)).trans tc4
            have B5 : Below lo W4 W5 := by rw [← hW5]; exact (Below.refl _ _).alloc hlW4 _
            have rows5 : HasD W5 X3 q3 l3 := hkeep rows4 B5 S0.low
            have hMlt : ∀ b', vL.ownBlock = some b' → b' < W4.heap.size := fun b' e => by
              obtain ⟨b2, o2, n2, c2', e2, _, hR2⟩ := ring4
              rw [e2] at e; injection e with e; have e' : b2 = b' := e; rw [← e']; exact hR2.lt
            have ring5 : RingV W5 vL tvs' := ring4.keep (fun b' e => G5.block b' (hMlt b' e) (by simp))
            have J5 := hJ _ M W4 W5 J4 (Mine.of_grown G5 (fun k e => by cases e))
            have CD := Lib.hid (do_line tc5 rows5 S0.few S0.cap S0.kb S0.lok (fun b' o' e h => by have := S0.low b' o' e h; omega))
            have HJ5 := Lib.hid J5
            have HT4 := Lib.hid (And.intro (S0.b.trans T4.1) B5)
            obtain ⟨R2, hR2⟩ : ∃ R2, W4.heap.size = R2 := ⟨_, rfl⟩
            rw [hR2] at job5
            have hRB : B < R2 := by have := tc4.lt; omega
            have HR5 := Lib.hid ring5
            have HMlt := Lib.hid hMlt
            clear S0 J4 T4 job4 tc4 rows4 B5 J5 HYR hyy G5 ring4 ring5 hMlt
            gi_wp2_with (fail)
            refine ⟨trivial, ?_⟩
            refine (callsIn_wide.2 CD.out).mono ?_
            rintro e w6 ⟨ok, x', y', k4, l4, X4, q4, d4, rfl, G6, T6, D6, hqd4, hX4, hdo⟩
            have job6 : JobAt w6 R2 x y := (G6.block R2 job5.lt (by simp; omega)).trans job5
            obtain ⟨y0, y1, yf⟩ := job6.cells
            have HN : ∃ M7, StD J lo B l0.length w T f' g tcs tvs' vL ok x' y' k4 l4 X4 q4 d4 R2 (pre3 ++ [x]) M7 ((w6.setCell ⟨R2, 0, none⟩ (.int .i64 x')).setCell ⟨R2, 1, none⟩ (.int .i64 y')) := by
              have S1 := HST.out
              have hmB : moreM M W4 W5 B := .inl S1.mB
              have hmR : moreM M W4 W5 R2 := .inr ⟨by omega, job5.lt⟩
              have J6 := hJ _ _ W5 w6 HJ5.out (Mine.of_grown G6 (fun k e => by cases e; exact hmB))
              have GS := gr_trans (set_grownJ w6 R2 0 (.int .i64 x')) (set_grownJ (w6.setCell ⟨R2, 0, none⟩ (.int .i64 x')) R2 1 (.int .i64 y'))
              have J7 := hJ _ _ w6 _ J6 (Mine.of_grown GS (fun k e => by cases e; exact .inl hmR))
              have h5 := tc5.lt
              have h6 := T6.lt
              have h7 := job5.lt
              have BB : Below lo w6 ((w6.setCell ⟨R2, 0, none⟩ (.int .i64 x')).setCell ⟨R2, 1, none⟩ (.int .i64 y')) := below_of_grown GS (by omega) (fun k e => by cases e; omega)
              have BC : Below lo W5 w6 := below_of_grown G6 (by omega) (fun k e => by cases e; omega)
              have lowX : ∀ b' o', X4 = some ⟨b', o', none⟩ → 0 < q4 → b' < lo := fun b' o' e h => by obtain ⟨o2', ho2, hq2⟩ := hX4 b' o' e h; exact S1.low b' o2' ho2 hq2
              have hlq := D6.1
              have hlq0 := rows5.1
              have hst := S1.st
              have hkb := S1.kb
              have hll : l4.length ≤ l3.length := by rcases hdo with ⟨_, h2, _⟩ | ⟨_, h2, _⟩ <;> rw [h2] <;> simp
              refine ⟨_, two_cellsJ job6 _ _, (GS.block B h6 (by simp; omega)).trans T6, hkeep D6 BB lowX, hqd4, by have := S1.few; omega, lowX, ?_, ?_, ?_, J7, .inl (.inl hmB), .inl (.inl hmR), fun b' e => .inl (.inl (.inl (S1.mL b' e))), ?_, ?_, cont_do ?_ hdo, ((HT4.out.1.trans HT4.out.2).trans BC).trans BB⟩
              · rcases hdo with ⟨_, h2, h3, h4⟩ | ⟨_, _, h4, _⟩
                · have h8 := S1.lok (x', y') (by rw [h2]; simp)
                  simp only at h8
                  omega
                · omega
              · rcases hdo with ⟨_, h2, _⟩ | ⟨_, h2, _⟩
                · exact fun z hz => S1.lok z (by rw [h2]; simp [hz])
                · rw [h2]; exact S1.lok
              · refine (HR5.out.keep (fun b' e => G6.block b' (by have := HMlt.out b' e; omega) ?_)).keep (fun b' e => GS.block b' (by have := HMlt.out b' e; have := G6.size; omega) ?_)
                · rw [HVL.out] at e
                  injection e with e
                  have e' : b = b' := e
                  simp; omega
                · have := HMlt.out b' e
                  simp; omega
              · intro k' hk'
                rcases hk' with ((hk' | hk') | hk') | hk'
                · exact S1.ml k' hk'
                · omega
                · have := G6.size; omega
                · have := G6.size; omega
              · rcases hdo with ⟨_, h2, _⟩ | ⟨_, h2, h3, _⟩
                · have : l3.length = l4.length + 1 := by rw [h2]; rfl
                  exact .inl (by omega)
                · rw [h2, h3]; exact hst
              · rw [List.append_assoc]; exact HP3.out
            obtain ⟨M7, HN⟩ := HN
            have HNN := Lib.hid HN
            have HLB := Lib.hid (lenAt_eq HN.tc.cells.2.2.1)
            have hdq : okOf (.bool ok) + q4 < 1 + q3 := by
              have h1 := D6.1
              have h2 := rows5.1
              rcases hdo with ⟨rfl, h3, _⟩ | ⟨rfl, h3, _⟩
              · rw [h3] at h2
                simp only [List.length_cons] at h2
                simp only [okOf]; omega
              · rw [h3] at h1
                simp only [okOf]; omega
            have HDQ := Lib.hid hdq
            clear HN CD hdq hdo
            gi_wp2
            go_roundw
            case rel => exact ⟨ok, x', y', k4, l4, X4, q4, d4, R2, _, M7, rfl, rfl, HNN⟩
            case measure =>
              rw [HLB.out, HLA.out]
              have : okOf (.bool true) = 1 := rfl
              rw [this]
              exact HDQ.out
          | false =>
            have HPS := Lib.hid (show stopL k3 l3 ∧ pre3 ++ contRun f' g tcs k3 l3 = T from S.p.elim (fun h => by cases h.1) (fun h => h.2))
            have hlq := S.rows.1
            have hlw3 : lo ≤ wr.heap.size := Nat.le_trans hlo S.b.size
            cases q3 with
            | zero =>
              obtain rfl : l3 = [] := List.length_eq_zero_iff.1 hlq
              have HN : ∃ b off nl cl, vL = .slice (some ⟨b, off, none⟩) nl cl ∧ StO J lo w T b off nl cl tvs' tcs f' pre3 M wr := by
                obtain ⟨b2, o2, n2, c2', e2, h5, hR2⟩ := S.ring
                refine ⟨b2, o2, n2, c2', e2, hR2, HRL.out, HOK.out, by have := HND.out; omega, by omega, ?_, S.j, S.mL b2 (by rw [e2]; rfl), S.ml, S.b⟩
                have := HPS.out.2
                rw [contRun_nil] at this
                exact this
              obtain ⟨b2, o2, n2, c2', e2, hSO⟩ := HN
              rw [HVL.out] at e2
              injection e2 with e4 e5 e6
              injection e4 with e4
              injection e4 with e7 e8
              subst e5 e6 e7 e8
              have HNN := Lib.hid hSO
              have HMN := Lib.hid (meas_need hSO.rl hSO.ring)
              have CE := Lib.hid (isEmpty_yes (A := X3) (c := d3) wr)
              clear hSO S
              gi_wp2_with (fail)
              refine ⟨trivial, ?_⟩
              refine (callsIn_wide.2 CE.out).mono ?_
              rintro e w' ⟨rfl, rfl⟩
              gi_wp2
              go_roundw
              case rel => exact ⟨_, _, _, _, _, _, _, _, _, rfl, HNN⟩
              case measure =>
                have h1 := HM.out
                have h2 := HMN.out
                rw [HWO.out, h1]
                show measF wr _ _ _ < _
                rw [h2]
                omega
            | succ q3 =>
              have CE := Lib.hid (isEmpty_no (A := X3) (n := q3) (c := d3) wr)
              obtain ⟨j3, ls3, rfl⟩ : ∃ j ls, l3 = j :: ls := by
                cases l3 with
                | nil => simp at hlq
                | cons j ls => exact ⟨j, ls, rfl⟩
              have hj3 := S.lok j3 (by simp)
              have hs3 := HPS.out.1 j3 ls3 rfl
              have hkb := S.kb
              have hlt3 : (j3 :: ls3).length < l0.length := by
                rcases S.st with h1 | ⟨h1, _⟩
                · exact h1
                · omega
              obtain ⟨b2, o2, n2, c2', e2, h5, hR2⟩ := S.ring
              rw [HVL.out] at e2
              injection e2 with e4 e5 e6
              injection e4 with e4
              injection e4 with e7 e8
              subst e5 e6 e7 e8
              have hRA := hR2.keep (Below.heap_alloc wr (.cells #[.int .i64 g, .int .i64 k3, .slice X3 (q3 + 1) d3] 64) b hR2.lt)
              have HRA := Lib.hid hRA
              have HDA := Lib.hid (cells3T (heap_alloc_new wr (.cells #[.int .i64 g, .int .i64 k3, .slice X3 (q3 + 1) d3] 64)))
              have HBL := Lib.hid hR2.lt
              clear hR2 hRA S
              gi_wp2_with (fail)
              refine ⟨trivial, ?_⟩
              refine (callsIn_wide.2 CE.out).mono ?_
              rintro e w' ⟨rfl, rfl⟩
              gi_wp2_with (gi_at_builtin; refine wpListIn_push _ rfl (.tmp 37) (.tmp 39) rfl _ _ _ _ _ rfl HRA.out (by omega) wr.heap.size 1 (g, k3, .slice X3 (q3 + 1) d3) rfl HDA.out rfl ?_; intro b' off' c2' w7 hR7 hG7 hat7)
              have HN : ∃ nn M7, StO J lo w T b' off' nn c2' (tvs' ++ [(g, k3, .slice X3 (q3 + 1) d3)]) (tcs ++ [(g, k3, j3 :: ls3)]) f' pre3 M7 w7 := by
                have S1 := HST.out
                have GA := World.grownBy_alloc wr (.cells #[.int .i64 g, .int .i64 k3, .slice X3 (q3 + 1) d3] 64) none
                have hMb : M b := S1.mL b (by rw [HVL.out]; rfl)
                have hblo : lo ≤ b := S1.ml b hMb
                have J6 := hJ _ _ wr _ S1.j (Mine.of_grown GA (fun k e => by cases e))
                have J7 := hJ _ _ _ w7 J6 (Mine.of_grown hG7 (fun k e => by cases e; exact .inl hMb))
                have BA : Below lo wr (wr.alloc (.cells #[.int .i64 g, .int .i64 k3, .slice X3 (q3 + 1) d3] 64)) := (Below.refl _ _).alloc hlw3 _
                have hsa : (wr.alloc (.cells #[.int .i64 g, .int .i64 k3, .slice X3 (q3 + 1) d3] 64)).heap.size = wr.heap.size + 1 := by simp
                have BB : Below lo (wr.alloc (.cells #[.int .i64 g, .int .i64 k3, .slice X3 (q3 + 1) d3] 64)) w7 := below_of_grown hG7 (by omega) (fun k e => by cases e; exact hblo)
                have hrow : HasD w X3 (q3 + 1) (j3 :: ls3) := S1.rows.keep (fun b9 o9 e h => (S1.b.block b9 (S1.low b9 o9 e h)).symm)
                refine ⟨_, _, hR7, HRL.out.snoc ⟨rfl, rfl, X3, q3 + 1, d3, rfl, hrow, S1.cap, S1.few, S1.low⟩, ?_, ?_, ?_, ?_, J7, ?_, ?_, (S1.b.trans BA).trans BB⟩
                · intro z hz
                  rcases List.mem_append.1 hz with hz | hz
                  · exact HOK.out z hz
                  · rw [List.mem_singleton.1 hz]
                    exact ⟨o1, o2, hkb.1, by show k3 ≤ 8; omega, S1.lok⟩
                · rw [needL_app]
                  have := HND.out
                  simp only [needL]
                  omega
                · have h8 := HRL.out.len
                  have h9 := HRL.out
                  omega
                · have := HPS.out.2
                  rw [contRun_stop f' g tcs k3 j3 ls3 (by omega)] at this
                  exact this
                · rcases hat7 with h | h
                  · rw [h]; exact .inl (.inl hMb)
                  · exact .inr ⟨h, hR7.lt⟩
                · intro k' hk'
                  rcases hk' with (hk' | hk') | hk'
                  · exact S1.ml k' hk'
                  · omega
                  · omega
              obtain ⟨nn, M7, HN⟩ := HN
              have hnn := hR7.2.1.symm.trans HN.ring.2.1
              subst hnn
              have HNN := Lib.hid HN
              have HMN := Lib.hid (meas_need HN.rl HN.ring)
              clear HN hR7 hG7 hat7
              gi_wp2
              go_roundw
              case rel => exact ⟨_, _, _, _, _, _, _, _, _, rfl, HNN⟩
              case measure =>
                have h1 := HM.out
                have h2 := HMN.out
                rw [HWO.out, h1]
                show measF w7 _ _ _ < _
                rw [h2, needL_app]
                simp only [needL]
                omega
end Go.Proofs.Ytpofkkenbepjpaa
