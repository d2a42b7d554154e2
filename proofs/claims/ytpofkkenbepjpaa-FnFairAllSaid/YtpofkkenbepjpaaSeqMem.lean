/-
  Iterators that keep state of their own in cells: what is proved here is how a loop over such an iterator is walked, and what slices.Collect returns of one. Condition: at most 1000 elements.
-/
import Derived.Test.YtpofkkenbepjpaaImp12d
import Derived.RangeFuncBox
import Derived.RangeFuncCalls
import Derived.RangeFuncLeaves
import Derived.Shelf.Abstract
import Derived.WalkKit
import Derived.OwnWalkIn
import Derived.TacticsInMore
import Derived.LoopNIn
import Derived.LoopIn
import Derived.Maps.AppendAt
namespace Go.Proofs.Ytpofkkenbepjpaa
open Go.RowKit Go.Shelf

attribute [local go_sem] Oper.semAt_some

/-- Nothing that was there has turned, but for the blocks of M. -/
structure Mine (M : Nat → Prop) (W W' : World) : Prop where
  os : W'.os = W.os
  tape : W'.tape = W.tape
  output : W'.output = W.output
  size : W.heap.size ≤ W'.heap.size
  block : ∀ k, k < W.heap.size → ¬ M k → W'.heap[k]? = W.heap[k]?
/-- The blocks of M, and those that were laid from X to Y. -/
def moreM (M : Nat → Prop) (X Y : World) : Nat → Prop := fun k => M k ∨ (X.heap.size ≤ k ∧ k < Y.heap.size)
theorem Mine.refl (M : Nat → Prop) (W : World) : Mine M W W := ⟨rfl, rfl, rfl, Nat.le_refl _, fun _ _ _ => rfl⟩
theorem Mine.of_grown {M : Nat → Prop} {W W' : World} {r : Option Nat} (h : W.grownBy W' r) (hr : ∀ k, r = some k → M k) : Mine M W W' :=
  ⟨h.os, h.tape, h.output, h.size, fun k hk hM => h.block k hk (fun e => hM (hr k e.symm))⟩
theorem Mine.trans {M : Nat → Prop} {X Y Z : World} (h : Mine M X Y) (k : Mine (moreM M X Y) Y Z) : Mine M X Z :=
  ⟨k.os.trans h.os, k.tape.trans h.tape, k.output.trans h.output, Nat.le_trans h.size k.size, fun i hi hM => (k.block i (Nat.lt_of_lt_of_le hi h.size) (fun e => e.elim hM (fun e => by omega))).trans (h.block i hi hM)⟩

/-- What a round that goes on keeps: what lay below n, and the blocks of M. -/
def Theirs (n : Nat) (M : Nat → Prop) (W W' : World) : Prop := Below n W W' ∧ ∀ k, M k → W'.heap[k]? = W.heap[k]?

/-- The contract of an iterator that keeps state of its own in cells: M says which blocks are its own. -/
def SeqMem {α : Type} (F : Fence) (n : Nat) (P : Program) (g : Nat) (lb : Array Value) (encs : α → Array Value) (lo : Nat) (S : List α → Prop) (N : Nat) (w : World) : Prop :=
  ∀ (l : Nat) (J : List α → (Nat → Prop) → World → Prop) (W : World), Below w.heap.size w W →
    (∀ s M X Y, J s M X → Mine M X Y → J s (moreM M X Y) Y) →
    (∀ s M X, J s M X → ∀ k, M k → k < X.heap.size) →
    (∀ pre x M W1, J pre M W1 → pre.length < N → YieldAt F (n - 1) P l (encs x) W1 fun e W' => e = .returned (.bool true) ∧ J (pre ++ [x]) M W' ∧ Theirs lo M W1 W') →
    J [] (fun _ => False) W →
    CallsIn F n P g (#[.func (.yield l) #[] #[]] ++ lb) W fun e W' => (∃ v, e = .returned v) ∧ ∃ xs M, S xs ∧ J xs M W'

def onlyOn (R : World → Prop) : Exit → Act → World → Prop
  | .normal, _, W' => R W'
  | _, _, _ => False

section
variable {F : Fence} {n : Nat} {P : Program}
/-- A loop over such an iterator, whose rounds all go on. -/
theorem wpIn_range_mem {α : Type} {g : Operand} {ps : Array Tmp} {assign body : Code} {Q : Exit → Act → World → Prop} {a : Act} {w : World}
    (hro : F.round = none) (h1 : 1 ≤ n) {gf : Nat} {lb : Array Value} (hg : a.eval g = .func (.func gf) #[] lb) (hFg : F.fn gf) (eg : ∀ args w, (callFunc gf args).run P w = .ok (.enter gf args) w)
    {encs : α → Array Value} {lo : Nat} {S : List α → Prop} {N : Nat} {w0 : World} (hseq : SeqMem F (n - 1) P gf lb encs lo S N w0) (hlo : lo ≤ w.heap.size) (hb0 : Below w0.heap.size w0 w) (hps : ∀ x, (encs x).size = ps.size)
    (I : List α → (Nat → Prop) → World → Prop)
    (hI : ∀ s M X Y, I s M X → Mine M X Y → I s (moreM M X Y) Y) (hIM : ∀ s M X, I s M X → ∀ k, M k → k < X.heap.size)
    (hIo : ∀ s M X (l : Nat) (o o' : Obj), I s M X → w.heap.size ≤ l → ¬ M l → X.heap[l]? = some o → o.isCells = false → I s M (X.putObj l o'))
    (h0 : ∀ o1 o2 : Obj, I [] (fun _ => False) ((w.alloc o1).alloc o2)) (a₁ : α → Act)
    (hassign : ∀ (l : Nat) (x : α) (W : World) (K : Act → World → Prop), K (a₁ x) W →
      assign.wpIn (F.inRound l) (n - 1 - 1) P (Exit.then K (fun _ _ _ => False)) { tmps := (ps.zip (encs x)).foldl (fun t (p, v) => t.setIfInBounds p v) a.tmps, defers := [] } W)
    (hbody : ∀ (l : Nat) (pre : List α) (x : α) (M : Nat → Prop) (W : World), I pre M W → pre.length < N → body.wpIn (F.inRound l) (n - 1 - 1) P (onlyOn fun W' => KeepsFrom w.heap.size W W' ∧ Theirs lo M W W' ∧ I (pre ++ [x]) M W') (a₁ x) W)
    (hdone : ∀ (D : Nat) (xs : List α) (M : Nat → Prop) (W : World), w.heap.size ≤ D → S xs → I xs M W → W.heap[D]? = some (.deferred (some [])) → Q .normal { a with defers := { target := .collected D, args := #[] } :: a.defers } W) :
    (Code.rangeFunc g ps assign body).wpIn F n P Q a w := by
  refine wpIn_rangeFunc (fun fn hfn => ?_)
  rw [hro]
  generalize hL : w.heap.size + 1 = L
  have hLK : w.heap.size < L := by omega
  -- the loop's record in its states
  let rc : LoopState → Option Code → Loop := fun st pe => { state := st, pending := pe, fn := fn, tmps := a.tmps, params := ps, assign := assign, body := body, defers := w.heap.size }
  let K0 : Obj := .deferred (some [])
  let Lies : (Nat → Prop) → World → LoopState → Prop := fun M W st => W.heap[L]? = some (.loop (rc st none)) ∧ W.heap[w.heap.size]? = some K0 ∧ ¬ M L ∧ ¬ M w.heap.size
  have lies_ne : ∀ {M W st}, Lies M W st → L < W.heap.size := fun h => (Array.getElem?_eq_some_iff.1 h.1).1
  have lies_put : ∀ {M W st} (st' : LoopState), Lies M W st → Lies M (W.putObj L (.loop (rc st' none))) st' := fun st' h =>
    ⟨World.putObj_heap_same (lies_ne h), (World.putObj_heap_other (by omega)).trans h.2.1, h.2.2.1, h.2.2.2⟩
  have put_I : ∀ {s M W st} (st' : LoopState), I s M W → Lies M W st → I s M (W.putObj L (.loop (rc st' none))) := fun st' hi h =>
    hIo _ _ _ L _ _ hi (by omega) h.2.2.1 h.1 rfl
  have put_T : ∀ {M W st} (st' : LoopState), Lies M W st → Theirs lo M W (W.putObj L (.loop (rc st' none))) := fun st' h =>
    ⟨(Below.refl lo _).grown (grownBy_putObj' _ L _) (by have := lies_ne h; omega) (fun k e => by cases e; omega), fun k hk => World.putObj_heap_other (fun e => h.2.2.1 (e ▸ hk))⟩
  have trans_T : ∀ {M X Y Z}, Theirs lo M X Y → Theirs lo M Y Z → Theirs lo M X Z := fun h k => ⟨h.1.trans k.1, fun i hi => (k.2 i hi).trans (h.2 i hi)⟩
  have W1e : Lies (fun _ => False) ((w.alloc K0).alloc (.loop (rc .ready none))) .ready := by
    refine ⟨?_, (Below.heap_alloc _ _ _ (by simp)).trans (World.alloc_heap_new w _), id, id⟩
    have := World.alloc_heap_new (w.alloc K0) (.loop (rc .ready none))
    rw [World.size_alloc, hL] at this
    exact this
  have h00 := h0 K0 (.loop (rc .ready none))
  have hbW : Below w0.heap.size w0 ((w.alloc K0).alloc (.loop (rc .ready none))) := hb0.trans ((((Below.refl _ w).alloc (Nat.le_refl _) _).alloc (by simp) _).mono hb0.size)
  have hrun : (Instr.enterLoop fn a.tmps ps assign body none).run P w = .ok (L, [{ target := .collected w.heap.size, args := #[] }]) ((w.alloc K0).alloc (.loop (rc .ready none))) := by rw [← hL]; exact run_enterLoop_outer _ _ _ _ _
  generalize (w.alloc K0).alloc (.loop (rc .ready none)) = W1 at W1e h00 hbW hrun
  refine ⟨L, [{ target := .collected w.heap.size, args := #[] }], W1, { target := .fn (.func gf) lb, args := #[.func (.yield L) #[] #[]] }, W1, gf, #[.func (.yield L) #[] #[]] ++ lb, W1, hrun, ?_, ?_, ?_, fun _ => h1, ?_⟩
  · simp only [resolve, hg]
    simp [go_sem]
  · intro f' hf'
    simp [Target.leads] at hf'
    rw [← hf']; exact hFg
  · simp [invoke, go_sem, eg]
  refine (hseq L (fun s M W => I s M W ∧ Lies M W .ready) W1 hbW ?_ ?_ ?_ ⟨h00, W1e⟩).mono ?_
  · rintro s M X Y ⟨hi, hl⟩ hm
    have hlt := lies_ne hl
    refine ⟨hI s M X Y hi hm, (hm.block _ hlt hl.2.2.1).trans hl.1, (hm.block _ (by omega) hl.2.2.2).trans hl.2.1, ?_, ?_⟩
    · rintro (h | h)
      · exact hl.2.2.1 h
      · omega
    · rintro (h | h)
      · exact hl.2.2.2 h
      · omega
  · exact fun s M X h => hIM s M X h.1
  · rintro pre x M W ⟨hi, hl⟩ hlen
    have hy := run_yield (P := P) (args := encs x) hl.1 (hps x)
    refine ⟨fn, _, assign, body, hy, roundIn_of_wpIn hfn (hassign _ x W _ ⟨_, run_beginRound hl.1 rfl, ?_⟩)⟩
    have hl2 := lies_put .busy hl
    refine wpIn_mono (hbody L pre x M _ (put_I .busy hi hl) hlen) ?_
    rintro e a3 W3 hp
    cases e with
    | normal =>
      obtain ⟨hk3, ht3, hi3⟩ := hp
      have hl3 : Lies M W3 .busy := ⟨hk3.same _ _ (by omega) hl2.1 rfl, hk3.same _ _ (Nat.le_refl _) hl2.2.1 rfl, hl2.2.2.1, hl2.2.2.2⟩
      exact ⟨_, _, run_endRound none hl3.1, ⟨rfl, ⟨put_I .ready hi3 hl3, lies_put .ready hl3⟩, trans_T (put_T .busy hl) (trans_T ht3 (put_T .ready hl3))⟩⟩
    | ret => exact hp.elim
    | exit id => exact hp.elim
    | goto t => exact hp.elim
    | panic ch => exact hp.elim
    | outgrown => exact hp.elim
  · rintro e W2 ⟨⟨v, rfl⟩, xs, M, hS, hi, hl⟩
    exact ⟨none, _, run_endLoop hl.1 (by simp [rc]), hdone _ xs M _ (Nat.le_refl _) hS (hIo _ _ _ L _ _ hi (by omega) hl.2.2.1 hl.1 rfl) ((World.putObj_heap_other (by omega)).trans hl.2.1)⟩
end
end Go.Proofs.Ytpofkkenbepjpaa
