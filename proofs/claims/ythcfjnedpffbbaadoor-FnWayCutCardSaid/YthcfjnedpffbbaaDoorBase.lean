/-
  Plain words for the walks of this seat: what is proved here is how slices that came in, and slices that a call made, are read and kept while a call goes on. No condition.
-/
import Derived.WalkKit
import Derived.ProofKit
import Derived.OpenShut
import Derived.Below
import Derived.Laws.OwnMore
import Derived.Laws.CopyOwn
import Derived.Laws.BytesArg
import Derived.Deep.AppendLies
import Derived.Deep.OwnRows
import Derived.Deep.Draws
import Derived.Lib.Hide
import Derived.ArgAppend
namespace Go.Proofs.YthcfjnedpffbbaaDoor
open Go.RowKit

/-- The slice at A with n elements of one cell reads as xs. -/
def Has (w : World) (A : Option Addr) (n : Nat) (xs : List Value) : Prop :=
  xs.length = n ∧ ∀ i, i < n → ∃ b o, A = some ⟨b, o, none⟩ ∧ w.cell? ⟨b, o + i, none⟩ = xs[i]?

def ints (k : IntKind) (zs : List Int) : List Value := zs.map (Value.int k)
theorem ints_length (k : IntKind) (zs : List Int) : (ints k zs).length = zs.length := by simp [ints]
theorem ints_at (k : IntKind) (zs : List Int) (i : Nat) (h : i < zs.length) : (ints k zs)[i]? = some (.int k (zs.getD i 0)) := by
  simp [ints, List.getD, List.getElem?_eq_getElem h]

section
variable {w w' : World} {n c : Nat} {A : Option Addr} {xs : List Value}
theorem Has.at_ {k : IntKind} {zs : List Int} (h : Has w A n (ints k zs)) {i : Nat} (hi : i < n) :
    ∃ b o z, A = some ⟨b, o, none⟩ ∧ b < w.heap.size ∧ zs[i]? = some z ∧ w.cell? ⟨b, o + i, none⟩ = some (.int k z) := by
  obtain ⟨b, o, hA, hc⟩ := h.2 i hi
  have hl := h.1
  rw [ints_length] at hl
  have hz : zs[i]? = some zs[i] := List.getElem?_eq_getElem (by omega)
  rw [show (ints k zs)[i]? = some (.int k zs[i]) by simp [ints, hz]] at hc
  exact ⟨b, o, _, hA, World.block_lt_of_cell? _ _ hc, hz, hc⟩
theorem Has.len {k : IntKind} {zs : List Int} (h : Has w A n (ints k zs)) : zs.length = n := by have := h.1; rwa [ints_length] at this
theorem Has.below {B : Nat} (h : Has w A n xs) (hB : w.heap.size ≤ B) (hb : Below B w w') : Has w' A n xs :=
  ⟨h.1, fun i hi => by
    obtain ⟨b, o, hA, hc⟩ := h.2 i hi
    have hl := h.1
    have hs : xs[i]? = some xs[i] := List.getElem?_eq_getElem (by omega)
    have hlt : b < w.heap.size := World.block_lt_of_cell? w ⟨b, o + i, none⟩ (hc.trans hs)
    exact ⟨b, o, hA, (hb.cell (p := ⟨b, o + i, none⟩) (by show b < B; omega)).trans hc⟩⟩
theorem Has.bel (h : Has w A n xs) (hb : Below w.heap.size w w') : Has w' A n xs := h.below (Nat.le_refl _) hb
theorem Has.grown {row : Option Nat} (h : Has w A n xs) (hg : w.grownBy w' row) (hne : ∀ a, A = some a → some a.block ≠ row) : Has w' A n xs :=
  ⟨h.1, fun i hi => by
    obtain ⟨b, o, hA, hc⟩ := h.2 i hi
    have hl := h.1
    have hs : xs[i]? = some xs[i] := List.getElem?_eq_getElem (by omega)
    have hlt : b < w.heap.size := World.block_lt_of_cell? w ⟨b, o + i, none⟩ (hc.trans hs)
    exact ⟨b, o, hA, (World.cell?_of_block (a := ⟨b, o + i, none⟩) (hg.block b hlt (hne _ hA))).trans hc⟩⟩

theorem Has.grown' {row : Option Nat} (h : Has w A n xs) (hg : w.grownBy w' row) (hne : 0 < n → ∀ a, A = some a → some a.block ≠ row) : Has w' A n xs := by
  rcases Nat.eq_zero_or_pos n with h0 | h0
  · exact ⟨h.1, fun i hi => by omega⟩
  · exact h.grown hg (hne h0)

/-- A slice that the call made (from block lo on): it reads as xs and may be written. -/
def Own (w : World) (lo : Nat) (e : TypeId) (A : Option Addr) (n c : Nat) (xs : List Value) : Prop := w.ownsRow lo e 1 (.slice A n c) n xs

variable {lo : Nat} {e : TypeId}
theorem Own.has (h : Own w lo e A n c xs) : Has w A n xs := by
  refine ⟨by have := h.1; omega, fun i hi => ?_⟩
  obtain ⟨g, cap, hv, _, _⟩ := World.ownsRow.form h (by omega)
  injection hv with hA _ hcap
  subst hA hcap
  exact ⟨g, 0, rfl, by rw [Nat.zero_add]; exact World.ownsRow.cellAt h i (by omega)⟩
theorem Own.block {a : Addr} (h : Own w lo e (some a) n c xs) : lo ≤ a.block ∧ a.block < w.heap.size := World.ownsRow.lt h a.block rfl
theorem Own.at_head {a : Addr} (h : Own w lo e (some a) n c xs) : a = ⟨a.block, 0, none⟩ := by
  rcases h.2 with ⟨h', _⟩ | ⟨g, cap, cur, h', _⟩
  · cases h'
  · injection h' with h1; injection h1 with h1; subst h1; rfl
theorem Own.head (h : Own w lo e A n c xs) (hn : 0 < n) : ∃ g, A = some ⟨g, 0, none⟩ ∧ lo ≤ g ∧ g < w.heap.size := by
  obtain ⟨g, cap, hv, h1, h2⟩ := World.ownsRow.form h hn
  injection hv with hA _ _
  exact ⟨g, hA, h1, h2⟩
theorem Own.at_ {g : Nat} (h : Own w lo e (some ⟨g, 0, none⟩) n c xs) {k : Nat} (hk : k < n) : ∃ u, xs[k]? = some u ∧ w.cell? ⟨g, k, none⟩ = some u ∧ w.frozen? ⟨g, k, none⟩ = false := by
  have hl := h.1
  have hs : xs[k]? = some xs[k] := List.getElem?_eq_getElem (by omega)
  exact ⟨_, hs, (World.ownsRow.cellAt h k (by omega)).trans hs, World.ownsRow.frozenAt h k⟩
theorem Own.set_ {g : Nat} (h : Own w lo e (some ⟨g, 0, none⟩) n c xs) (k : Nat) (u : Value) : Own (w.setCell ⟨g, k, none⟩ u) lo e (some ⟨g, 0, none⟩) n c (xs.set k u) := (World.ownsRow.stored h k u).1
theorem Own.mono {lo' : Nat} (h : Own w lo e A n c xs) (hl : lo' ≤ lo) : Own w lo' e A n c xs := by
  refine ⟨h.1, ?_⟩
  rcases h.2 with h' | ⟨g, cap, cur, hv, hb, r⟩
  · exact .inl h'
  · exact .inr ⟨g, cap, cur, hv, by omega, r⟩
theorem Own.grown {row : Option Nat} (h : Own w lo e A n c xs) (hg : w.grownBy w' row) (hne : ∀ a, A = some a → some a.block ≠ row) : Own w' lo e A n c xs :=
  World.ownsRow.kept h hg (by
    cases A with
    | none => exact .inl rfl
    | some a => exact .inr (hne a rfl))
theorem grown_of_below (hb : Below w.heap.size w w') : w.grownBy w' none := ⟨hb.os, hb.tape, hb.output, hb.size, fun i hi _ => hb.block i hi⟩
theorem Own.bel (h : Own w lo e A n c xs) (hb : Below w.heap.size w w') : Own w' lo e A n c xs := h.grown (grown_of_below hb) (fun _ _ h => by cases h)
theorem below_of_grown {B : Nat} {row : Option Nat} (hg : w.grownBy w' row) (hB : B ≤ w.heap.size) (hr : ∀ k, row = some k → B ≤ k) : Below B w w' :=
  (Below.refl B w).grown hg hB hr
end

open Go.ChangeShapes Go.WideShapes Go.ChangeAt in
/-- A slice of integers that came in. -/
theorem has_of_trod {H : Type} {enc : TypeId × Value → H} {P : Program} {W : World} {base : Nat} {spare : Nat → Bool} {held : Bool} {t e : TypeId} {k : IntKind} {A : Option Addr} {n c : Nat} {d : DataW H} {p : List MemPlace}
    (ht : P.underlying t = some (.slice e)) (he : P.underlying e = some (.int k)) (hc : P.cellsOf e = 1) (h : DataW.Trod enc P W base spare held t (.slice A n c) d p) :
    ∃ zs, Has W A n (ints k zs) ∧ (∀ z ∈ zs, (Lit.int k z).wf = true) ∧ n ≤ c ∧ c ≤ maxLen := by
  obtain ⟨fuel, hf⟩ := h
  rcases open_ints ht he hc hf with ⟨hcs, _⟩ | ⟨x, l, c, zs, hcs, _, hl, hm, hz, _, hcell, hwz⟩
  · simp [Value.cells] at hcs
    obtain ⟨rfl, rfl, rfl⟩ := hcs
    exact ⟨[], ⟨rfl, fun i hi => absurd hi (by omega)⟩, by simp, by simp⟩
  · simp [Value.cells] at hcs
    obtain ⟨rfl, rfl, rfl⟩ := hcs
    have hzl : n ≤ zs.length := by rw [hz]; split <;> omega
    refine ⟨zs.take n, ⟨by rw [ints_length]; simp; omega, fun i hi => ?_⟩, fun z hz => hwz z (List.mem_of_mem_take hz), hl, hm⟩
    have hci := hcell i (by omega)
    obtain ⟨b, off, spot⟩ := x
    have hspot : spot = none := by
      have h0 := hcell 0 (by omega)
      simpa [Addr.add] using World.cell?_spot h0
    subst hspot
    have hadd : (⟨b, off, none⟩ : Addr).add i = ⟨b, off + i, none⟩ := by unfold Addr.add; split <;> simp_all
    rw [hadd] at hci
    exact ⟨b, off, rfl, by rw [hci, ints_at k _ i (by simp; omega)]; congr 2; simp [List.getD, hi]⟩
theorem i64_of_wf {n : Int} (h : (Lit.int .i64 n).wf = true) : -9223372036854775808 ≤ n ∧ n ≤ 9223372036854775807 := by
  have h1 : IntKind.i64.min = -9223372036854775808 := rfl
  have h2 : IntKind.i64.max = 9223372036854775807 := rfl
  simp only [Lit.wf, Bool.and_eq_true, decide_eq_true_eq] at h
  omega
theorem u8_of_wf {n : Int} (h : (Lit.int .u8 n).wf = true) : 0 ≤ n ∧ n ≤ 255 := by
  have h1 : IntKind.u8.min = 0 := rfl
  have h2 : IntKind.u8.max = 255 := rfl
  simp only [Lit.wf, Bool.and_eq_true, decide_eq_true_eq] at h
  omega

theorem set_take {α : Type} (xs : List α) (z : α) (k n : Nat) (hx : xs.length = n) (hk : k < n) (u : α) (hu : xs[k]? = some u) :
    (xs.take k ++ List.replicate (n - k) z).set k u = xs.take (k + 1) ++ List.replicate (n - (k + 1)) z := by
  apply List.ext_getElem?
  intro j
  have hl : (xs.take k).length = k := by simp; omega
  by_cases hj : j = k
  · subst hj
    rw [List.getElem?_set_self (by simp; omega), List.getElem?_append_left (by simp; omega), List.getElem?_take, if_pos (by omega), hu]
  · rw [List.getElem?_set_ne (by omega)]
    by_cases hlt : j < k
    · rw [List.getElem?_append_left (by omega), List.getElem?_append_left (by simp; omega), List.getElem?_take, List.getElem?_take, if_pos hlt, if_pos (by omega)]
    · rw [List.getElem?_append_right (by omega), List.getElem?_append_right (by simp; omega)]
      simp only [List.length_take]
      by_cases hjn : j < n
      · rw [List.getElem?_replicate, List.getElem?_replicate, if_pos (by omega), if_pos (by omega)]
      · rw [List.getElem?_replicate, List.getElem?_replicate, if_neg (by omega), if_neg (by omega)]

theorem set_drop {α : Type} (xs ys : List α) (k n : Nat) (hx : xs.length = n) (hy : ys.length = n) (hk : k < n) (u : α) (hu : xs[k]? = some u) :
    (xs.take k ++ ys.drop k).set k u = xs.take (k + 1) ++ ys.drop (k + 1) := by
  apply List.ext_getElem?
  intro j
  by_cases hj : j = k
  · subst hj
    rw [List.getElem?_set_self (by simp; omega), List.getElem?_append_left (by simp; omega), List.getElem?_take, if_pos (by omega), hu]
  · rw [List.getElem?_set_ne (by omega)]
    by_cases hlt : j < k
    · rw [List.getElem?_append_left (by simp; omega), List.getElem?_append_left (by simp; omega), List.getElem?_take, List.getElem?_take, if_pos hlt, if_pos (by omega)]
    · rw [List.getElem?_append_right (by simp; omega), List.getElem?_append_right (by simp; omega), List.getElem?_drop, List.getElem?_drop]
      congr 1
      simp; omega
theorem grown_set {w w' : World} {g : Nat} (h : w.grownBy w' (some g)) (k : Nat) (u : Value) : w.grownBy (w'.setCell ⟨g, k, none⟩ u) (some g) :=
  ⟨h.os, h.tape, h.output, by simpa [World.setCell] using h.size, fun i hi hne => (Below.heap_setCell w' ⟨g, k, none⟩ u i (fun e => hne (by rw [e]))).trans (h.block i hi hne)⟩
theorem ints_set (k : IntKind) (zs : List Int) (i : Nat) (z : Int) : (ints k zs).set i (.int k z) = ints k (zs.set i z) := by simp [ints, List.map_set]
theorem below_drewN {B : Nat} (w : World) (n : Nat) : Below B w (w.drewN n) := ⟨rfl, rfl, rfl, Nat.le_refl _, fun _ _ => rfl⟩

/-- 'out = append(out, x, ..)' onto a slice that the call made: the elements lie in a new block, as the walk leaves it. -/
theorem wpList_apps {P : Program} {ops : Array Oper} {rest : List Oper} {o : Oper} {a : Act} {Q : Exit → Act → World → Prop} (w : World) (hgd : o.guard = none) (s x : Operand) (t : TypeId)
    (ho : o.op = .call { callee := .builtin .append, args := #[s, x], argTypes := #[t, t] })
    (lo : Nat) (e : TypeId) (i : TypeInfo) (z : Value) (bytes : Nat) (ht : P.underlying t = some (.slice e)) (hi : P.info? e = some i) (hz : i.zero = some z) (hsize : i.size = 1) (hby : i.bytes = bytes) (hzs : z.cells.size = 1)
    (A : Option Addr) (n c : Nat) (xs : List Value) (hs : a.eval s = .slice A n c) (hown : Own w lo e A n c xs) (m c' : Nat) (cs : Array Value) (hx : a.eval x = .slice (some ⟨w.heap.size, 0, none⟩) m c') (hm : cs.size = m) (h1 : ∀ u ∈ cs.toList, u.oneCell' = true) (h0 : 0 < m)
    (h63 : n + m ≤ 1099511627776) (hbytes : bytes ≤ 64) (hlo : lo ≤ w.heap.size)
    (h : ∀ g cap w', Own w' lo e (some ⟨g, 0, none⟩) (n + m) cap (xs ++ cs.toList) → w.grownBy w' (A.map (·.block)) → Below lo w w' → (A.map (·.block) = some g ∨ w.heap.size ≤ g) → wpList P ops Q rest (a.put o.dst (.slice (some ⟨g, 0, none⟩) (n + m) cap)) w') :
    wpList P ops Q (o :: rest) a (w.alloc (.cells cs e)) := by
  have hownA : (w.alloc (.cells cs e)).ownsRow lo e 1 (.slice A n c) n xs := World.ownsRow.alloc hown _
  have hb : (A.map (·.block)) = (Value.slice A n c).ownBlock := by cases A <;> rfl
  refine wpList_append_lies (w.alloc (.cells cs e)) hgd s x t ho lo e i z 1 bytes ht hi hz hsize hby hzs (by decide) _ n xs hs hownA ⟨w.heap.size, 0, none⟩ m c' cs.toList hx (by simpa using hm) ?_ h1 h0 (by unfold maxLen; omega) ?_ (by simp; omega) _ rfl ?_
  · intro j u hu
    have hadd : (⟨w.heap.size, 0, none⟩ : Addr).add j = ⟨w.heap.size, j, none⟩ := by unfold Addr.add; split <;> simp_all
    rw [hadd, cell_of_row (w.alloc (.cells cs e)) w.heap.size j cs e (0, 0) (heap_alloc_new w _)]
    simpa using hu
  · calc (n + m) * bytes ≤ 1099511627776 * 64 := Nat.mul_le_mul h63 hbytes
      _ ≤ 140737488355328 := by decide
  · intro g cap w' h2 h3 h4 _
    have hg : w.grownBy w' (A.map (·.block)) := by
      rw [hb]
      exact ⟨h3.os, h3.tape, h3.output, Nat.le_trans (by simp) h3.size, fun k hk hne => (h3.block k (by simp; omega) hne).trans (Below.heap_alloc w _ k hk)⟩
    refine h g cap w' h2 hg (below_of_grown hg hlo ?_) ?_
    · intro k hk
      cases A with
      | none => cases hk
      | some ad => have h5 := hown.block; simp at hk; omega
    · rw [hb]
      rcases h4 with h4 | h4
      · exact .inl h4
      · exact .inr (by rw [h4]; simp)

theorem bel_trans {a b c : World} (h : Below a.heap.size a b) (k : Below b.heap.size b c) : Below a.heap.size a c := h.trans (k.mono h.size)
/-- A step that wrote nothing that was there but, it may be, the block of the slice at A, which came from block lo on. -/
theorem bel_grown {a b c : World} {A : Option Addr} (h : Below a.heap.size a b) (k : b.grownBy c (A.map (·.block))) (hA : ∀ ad, A = some ad → a.heap.size ≤ ad.block) : Below a.heap.size a c :=
  h.trans (below_of_grown k h.size (fun i hi => by cases A with | none => cases hi | some ad => injection hi with hi; exact hi ▸ hA ad rfl))
section
variable {w w' : World} {n c m d lo lo' : Nat} {A B : Option Addr} {xs ys : List Value} {e e' : TypeId}
theorem Own.ge (h : Own w lo e A n c xs) {a : World} (ha : a.heap.size ≤ lo) : ∀ ad, A = some ad → a.heap.size ≤ ad.block := fun ad hA => by subst hA; have := h.block; omega
theorem Own.lt (h : Own w lo e A n c xs) : ∀ ad, A = some ad → ad.block < w.heap.size := fun ad hA => by subst hA; exact h.block.2
/-- The slice at B is marked; the slice at A, made later, is as it was. -/
theorem Own.later (h : Own w lo e A n c xs) (hB : ∀ ad, B = some ad → ad.block < lo) (k : w.grownBy w' (B.map (·.block))) : Own w' lo e A n c xs :=
  h.grown k (fun ad hA => by
    subst hA
    have := h.block
    cases B with
    | none => simp
    | some bd => have := hB bd rfl; simp; omega)
/-- The slice at B is marked; the slice at A, made before, is as it was. -/
theorem Own.earlier (h : Own w lo e A n c xs) {z : World} (hA : ∀ ad, A = some ad → ad.block < z.heap.size) (hB : ∀ ad, B = some ad → z.heap.size ≤ ad.block) (k : w.grownBy w' (B.map (·.block))) : Own w' lo e A n c xs :=
  h.grown k (fun ad hA' => by
    subst hA'
    have := hA ad rfl
    cases B with
    | none => simp
    | some bd => have := hB bd rfl; simp; omega)
end

/-- 'out = append(out, xs...)' onto a slice that the call made, xs any slice that reads as news. -/
theorem wpList_app_has {P : Program} {ops : Array Oper} {rest : List Oper} {o : Oper} {a : Act} {Q : Exit → Act → World → Prop} (w : World) (hgd : o.guard = none) (s x : Operand) (t : TypeId)
    (ho : o.op = .call { callee := .builtin .append, args := #[s, x], argTypes := #[t, t] })
    (lo : Nat) (e : TypeId) (i : TypeInfo) (z : Value) (bytes : Nat) (ht : P.underlying t = some (.slice e)) (hi : P.info? e = some i) (hz : i.zero = some z) (hsize : i.size = 1) (hby : i.bytes = bytes) (hzs : z.cells.size = 1)
    (A : Option Addr) (n c : Nat) (xs : List Value) (hs : a.eval s = .slice A n c) (hown : Own w lo e A n c xs) (B : Option Addr) (m c' : Nat) (news : List Value) (hx : a.eval x = .slice B m c') (hr : Has w B m news) (h1 : ∀ u ∈ news, u.oneCell' = true)
    (h63 : n + m ≤ 1099511627776) (hbytes : bytes ≤ 64) (hlo : lo ≤ w.heap.size)
    (h : ∀ A' cap w', Own w' lo e A' (n + m) cap (xs ++ news) → w.grownBy w' (A.map (·.block)) → Below lo w w' → wpList P ops Q rest (a.put o.dst (.slice A' (n + m) cap)) w') :
    wpList P ops Q (o :: rest) a w := by
  have hb : (A.map (·.block)) = (Value.slice A n c).ownBlock := by cases A <;> rfl
  have hbel : ∀ w' : World, w.grownBy w' (A.map (·.block)) → Below lo w w' := fun w' hg => below_of_grown hg hlo (fun k hk => by
    cases A with
    | none => cases hk
    | some ad => have h5 := hown.block; simp at hk; omega)
  cases B with
  | none =>
    have hm : m = 0 := by
      rcases Nat.eq_zero_or_pos m with h0 | h0
      · exact h0
      · obtain ⟨b, o', hA, _⟩ := hr.2 0 h0; cases hA
    subst hm
    obtain rfl : news = [] := List.eq_nil_of_length_eq_zero hr.1
    refine wpList_plain hgd fun K hK' => ?_
    have hrun := run_append_owned_none (P := P) w lo t o.type e i 1 ht hi (.slice A n c) n xs hown
    unfold Oper.wp
    simp only [execOp, ho, resolve, invoke, builtin, Sem.run_bind, Sem.run_pure, Result.andThen_ok, List.map_toArray, List.map_cons, List.map_nil, hs, hx]
    have hc0 : (Builtin.append_ #[t, t] o.type #[.slice A n c, .slice none 0 c']).run P w = .ok (.slice A n c) w := by
      rcases hown.2 with ⟨h', _⟩ | ⟨g, cap, cur, h', _, _, hnc, _⟩
      · cases h'; simp [Builtin.append_, run_underlying ht, sizeOf, typeInfo, hi, Builtin.lenOf, Builtin.firstCells]
      · cases h'; simp [Builtin.append_, run_underlying ht, sizeOf, typeInfo, hi, Builtin.lenOf, Builtin.firstCells, hnc, storeCells]
    rw [hc0]
    exact hK' _ _ (by simpa using h A c w (by simpa using hown) (World.grownBy.refl _ _) (Below.refl _ _))
  | some ad =>
    refine wpList_append_own w hgd s x t ho lo e i z 1 bytes ht hi hz hsize hby hzs (by decide) _ n xs hs hown ad m c' news hx (by have := hr.1; omega) ?_ h1 (by unfold maxLen; omega) ?_ hlo ?_
    · intro j u hu
      have hj : j < m := by have := hr.1; have := (List.getElem?_eq_some_iff.1 hu).1; omega
      obtain ⟨b, o', hA, hc⟩ := hr.2 j hj
      injection hA with hA
      subst hA
      have hadd : (⟨b, o', none⟩ : Addr).add j = ⟨b, o' + j, none⟩ := by unfold Addr.add; split <;> simp_all
      rw [hadd, hc, hu]
    · calc (n + m) * bytes ≤ 1099511627776 * 64 := Nat.mul_le_mul h63 hbytes
        _ ≤ 140737488355328 := by decide
    · intro v' w' h2 h3 _
      rw [← hb] at h3
      have hv : ∃ A' cap, v' = .slice A' (n + m) cap := by
        rcases h2.2 with ⟨rfl, h0⟩ | ⟨g, cap, cur, rfl, _⟩
        · exact ⟨none, 0, by rw [h0]⟩
        · exact ⟨_, _, rfl⟩
      obtain ⟨A', cap, rfl⟩ := hv
      exact h A' cap w' h2 h3 (hbel w' h3)

/-- What a slice owns it owns a part of. -/
theorem Own.front {w : World} {lo n m c : Nat} {e : TypeId} {g : Nat} {xs news : List Value} (h : Own w lo e (some ⟨g, 0, none⟩) (n + m) c (xs ++ news)) (hx : xs.length = n) : Own w lo e (some ⟨g, 0, none⟩) n c xs := by
  rcases h.2 with ⟨h', _⟩ | ⟨g', cap, cur, hv, hb, hg, hnc, hcm, hcs, htake⟩
  · cases h'
  · injection hv with hA _ hcap
    injection hA with hA
    injection hA with hA
    subst hA hcap
    refine ⟨by omega, .inr ⟨g, c, cur, rfl, hb, hg, by omega, hcm, hcs, ?_⟩⟩
    have h1 := congrArg (List.take n) htake
    rw [List.take_take, Nat.mul_one, Nat.min_eq_left (by omega), List.take_append_of_le_length (by omega), List.take_of_length_le (show xs.length ≤ n by omega)] at h1
    rw [Nat.mul_one]
    exact h1

/-- 'append(out, xs...)' that is not kept: out is as it was. -/
theorem wpList_app_keep {P : Program} {ops : Array Oper} {rest : List Oper} {o : Oper} {a : Act} {Q : Exit → Act → World → Prop} (w : World) (hgd : o.guard = none) (s x : Operand) (t : TypeId)
    (ho : o.op = .call { callee := .builtin .append, args := #[s, x], argTypes := #[t, t] })
    (lo : Nat) (e : TypeId) (i : TypeInfo) (z : Value) (bytes : Nat) (ht : P.underlying t = some (.slice e)) (hi : P.info? e = some i) (hz : i.zero = some z) (hsize : i.size = 1) (hby : i.bytes = bytes) (hzs : z.cells.size = 1)
    (A : Option Addr) (n c : Nat) (xs : List Value) (hs : a.eval s = .slice A n c) (hown : Own w lo e A n c xs) (B : Option Addr) (m c' : Nat) (news : List Value) (hx : a.eval x = .slice B m c') (hr : Has w B m news) (h1 : ∀ u ∈ news, u.oneCell' = true) (h0 : 0 < m)
    (h63 : n + m ≤ 1099511627776) (hbytes : bytes ≤ 64) (hlo : lo ≤ w.heap.size)
    (h : ∀ A' cap w', Own w' lo e A' (n + m) cap (xs ++ news) → Own w' lo e A n c xs → w.grownBy w' (A.map (·.block)) → Below lo w w' → wpList P ops Q rest (a.put o.dst (.slice A' (n + m) cap)) w') :
    wpList P ops Q (o :: rest) a w := by
  have hbel : ∀ w' : World, w.grownBy w' (A.map (·.block)) → Below lo w w' := fun w' hg => below_of_grown hg hlo (fun k hk => by
    cases A with
    | none => cases hk
    | some ad => have h5 := hown.block; simp at hk; omega)
  obtain ⟨b, o', hB, _⟩ := hr.2 0 h0
  subst hB
  have hcells : ∀ j u, news[j]? = some u → w.cell? ((⟨b, o', none⟩ : Addr).add j) = some u := by
    intro j u hu
    have hj : j < m := by have := hr.1; have := (List.getElem?_eq_some_iff.1 hu).1; omega
    obtain ⟨b2, o2, hA, hc⟩ := hr.2 j hj
    injection hA with hA
    injection hA with e1 e2
    subst e1 e2
    have hadd : (⟨b, o', none⟩ : Addr).add j = ⟨b, o' + j, none⟩ := by unfold Addr.add; split <;> simp_all
    rw [hadd, hc, hu]
  have hbb : (n + m) * bytes ≤ 140737488355328 := by
    calc (n + m) * bytes ≤ 1099511627776 * 64 := Nat.mul_le_mul h63 hbytes
      _ ≤ 140737488355328 := by decide
  have hxl := hown.1
  by_cases hfit : n + m ≤ c
  · cases A with
    | none =>
      rcases hown.2 with ⟨h', _⟩ | ⟨g, cap, cur, h', _⟩
      · cases h'; omega
      · cases h'
    | some ad =>
      have had := hown.at_head
      obtain ⟨g, hg⟩ : ∃ g, ad = ⟨g, 0, none⟩ := ⟨_, had⟩
      subst hg
      refine wpList_plain hgd fun K hK' => ?_
      obtain ⟨w', hrun, hO, hgr⟩ := run_append_fits (P := P) w lo t o.type e i 1 ht hi hsize g n c xs hown ⟨b, o', none⟩ m c' news (by have := hr.1; omega) hcells h1 hfit
      unfold Oper.wp
      simp [execOp, ho, resolve, invoke, builtin, hs, hx, hrun, Result.andThen]
      exact hK' _ _ (h _ _ w' hO (Own.front hO (by omega)) hgr (hbel w' hgr))
  · refine wpList_append_grows w hgd s x t ho e i z 1 bytes ht hi hz hsize hby hzs (by decide) A n c xs hs ?_ hxl ?_ ⟨b, o', none⟩ m c' news hx (by have := hr.1; omega) hcells h1 (by omega) (by unfold maxLen; omega) hbb ?_
    · intro hA
      subst hA
      rcases hown.2 with ⟨h', h0'⟩ | ⟨g, cap, cur, h', _⟩
      · cases h'; exact ⟨rfl, rfl⟩
      · cases h'
    · intro ad hA j u hu
      subst hA
      have hj : j < n := by have := (List.getElem?_eq_some_iff.1 hu).1; omega
      obtain ⟨b2, o2, hA2, hc⟩ := hown.has.2 j hj
      injection hA2 with hA2
      subst hA2
      have hadd : (⟨b2, o2, none⟩ : Addr).add j = ⟨b2, o2 + j, none⟩ := by unfold Addr.add; split <;> simp_all
      rw [hadd, hc, hu]
    · intro v' w' hO hgr
      obtain ⟨g, cap, hv, h5, h6⟩ := World.ownsRow.form hO (by omega)
      subst hv
      have hgr' : w.grownBy w' (A.map (·.block)) := ⟨hgr.os, hgr.tape, hgr.output, hgr.size, fun k hk _ => hgr.block k hk (by simp)⟩
      exact h _ _ w' (Own.mono hO hlo) (hown.grown hgr (fun ad _ h => by cases h)) hgr' (hbel w' hgr')

/-- 'copy(out, xs)', out a slice that the call made, xs any slice of the same length. -/
theorem wpList_copy_all {P : Program} {ops : Array Oper} {rest : List Oper} {o : Oper} {a : Act} {Q : Exit → Act → World → Prop} (w : World) (hgd : o.guard = none) (d s : Operand) (t : TypeId)
    (ho : o.op = .call { callee := .builtin .copy, args := #[d, s], argTypes := #[t, t] })
    (lo : Nat) (e : TypeId) (i : TypeInfo) (ht : P.underlying t = some (.slice e)) (hi : P.info? e = some i) (hsize : i.size = 1)
    (A : Option Addr) (n c : Nat) (xs : List Value) (hd : a.eval d = .slice A n c) (hown : Own w lo e A n c xs) (B : Option Addr) (c' : Nat) (news : List Value) (hs : a.eval s = .slice B n c') (hr : Has w B n news) (h1 : ∀ u ∈ news, u.oneCell' = true)
    (h : ∀ w', Own w' lo e A n c news → Below lo w w' → wpList P ops Q rest (a.put o.dst (.int .i64 (n : Int))) w') :
    wpList P ops Q (o :: rest) a w := by
  have hsz : (P.info? e).map (·.size) = some 1 := by rw [hi]; simp [hsize]
  have hnl := hr.1
  rcases hown.2 with ⟨hv, h0⟩ | ⟨g, cap, cur, hv, hb, hg, hnc, hcm, hcs, htake⟩
  · subst h0
    obtain rfl : news = [] := List.eq_nil_of_length_eq_zero hnl
    refine wpList_copy_nothing hgd d s t t ho e ht hsz A B 0 c 0 c' hd hs (by simp) ?_
    have hx : xs = [] := List.eq_nil_of_length_eq_zero (by simpa using hown.1)
    exact h w (by rw [← hx]; exact hown) (Below.refl _ _)
  · injection hv with hA _ hcap
    subst hA hcap
    have hcl : cur.toList.length = c := by simpa using hcs
    have hmin : n.min n = n := Nat.min_self n
    refine wpList_copy_splice hgd d s t t ho e ht hsz (some ⟨g, 0, none⟩) B n c n c' hd hs g 0 cur.toList e (by simpa using hg) news (by rw [hmin]; exact hnl) ?_ (by omega) h1 lo w (Below.refl _ _) hb ?_
    · intro hpos
      refine ⟨rfl, ?_⟩
      obtain ⟨b, o', hB, _⟩ := hr.2 0 (by omega)
      refine ⟨_, hB, fun j u hu => ?_⟩
      have hj : j < n := by have := (List.getElem?_eq_some_iff.1 hu).1; omega
      obtain ⟨b2, o2, hB2, hc2⟩ := hr.2 j hj
      rw [hB] at hB2
      injection hB2 with hB2
      injection hB2 with q1 q2
      subst q1 q2
      have hadd : (⟨b, o', none⟩ : Addr).add j = ⟨b, o' + j, none⟩ := by unfold Addr.add; split <;> simp_all
      rw [hadd, hc2, hu]
    · intro w' hg' hb'
      rw [hnl]
      refine h w' ⟨by omega, .inr ⟨g, c, _, rfl, hb, hg'.out, hnc, hcm, ?_, ?_⟩⟩ hb'
      · simp [splice]; omega
      · simp [splice, ← hnl]

/-- 'copy(out, xs)', out a slice that the call made, xs any slice: as many as there are in both. -/
theorem wpList_copy_part {P : Program} {ops : Array Oper} {rest : List Oper} {o : Oper} {a : Act} {Q : Exit → Act → World → Prop} (w : World) (hgd : o.guard = none) (d s : Operand) (t : TypeId)
    (ho : o.op = .call { callee := .builtin .copy, args := #[d, s], argTypes := #[t, t] })
    (lo : Nat) (e : TypeId) (i : TypeInfo) (ht : P.underlying t = some (.slice e)) (hi : P.info? e = some i) (hsize : i.size = 1)
    (A : Option Addr) (n c : Nat) (xs : List Value) (hd : a.eval d = .slice A n c) (hown : Own w lo e A n c xs) (B : Option Addr) (m c' : Nat) (news : List Value) (hs : a.eval s = .slice B m c') (hr : Has w B m news) (h1 : ∀ u ∈ news, u.oneCell' = true) (k : Nat) (hk' : (k = n ∧ n ≤ m) ∨ (k = m ∧ m ≤ n))
    (h : ∀ w', Own w' lo e A n c (news.take k ++ xs.drop k) → Below lo w w' → wpList P ops Q rest (a.put o.dst (.int .i64 (k : Int))) w') :
    wpList P ops Q (o :: rest) a w := by
  have hk : k = n.min m := by
    rcases hk' with ⟨rfl, h⟩ | ⟨rfl, h⟩
    · exact (Nat.min_eq_left h).symm
    · exact (Nat.min_eq_right h).symm
  have hsz : (P.info? e).map (·.size) = some 1 := by rw [hi]; simp [hsize]
  have hnl := hr.1
  rcases hown.2 with ⟨hv, h0⟩ | ⟨g, cap, cur, hv, hb, hg, hnc, hcm, hcs, htake⟩
  · subst h0
    obtain rfl : k = 0 := by rw [hk]; exact Nat.zero_min _
    refine wpList_copy_nothing hgd d s t t ho e ht hsz A B 0 c m c' hd hs (by simp) ?_
    exact h w (by simpa using hown) (Below.refl _ _)
  · injection hv with hA _ hcap
    subst hA hcap
    have hcl : cur.toList.length = c := by simpa using hcs
    have hkn : k ≤ n := by rw [hk]; exact Nat.min_le_left _ _
    have hkm : k ≤ m := by rw [hk]; exact Nat.min_le_right _ _
    have hnk : (news.take k).length = k := by simp; omega
    refine wpList_copy_splice hgd d s t t ho e ht hsz (some ⟨g, 0, none⟩) B n c m c' hd hs g 0 cur.toList e (by simpa using hg) (news.take k) (by rw [hnk, hk]; exact Nat.min_comm _ _) ?_ (by omega) (fun u hu => h1 u (List.mem_of_mem_take hu)) lo w (Below.refl _ _) hb ?_
    · intro hpos
      refine ⟨rfl, ?_⟩
      obtain ⟨b, o', hB, _⟩ := hr.2 0 (by omega)
      refine ⟨_, hB, fun j u hu => ?_⟩
      have hj : j < k := by have := (List.getElem?_eq_some_iff.1 hu).1; omega
      obtain ⟨b2, o2, hB2, hc2⟩ := hr.2 j (by omega)
      rw [hB] at hB2
      injection hB2 with hB2
      injection hB2 with q1 q2
      subst q1 q2
      have hadd : (⟨b, o', none⟩ : Addr).add j = ⟨b, o' + j, none⟩ := by unfold Addr.add; split <;> simp_all
      rw [List.getElem?_take, if_pos hj] at hu
      rw [hadd, hc2, hu]
    · intro w' hg' hb'
      rw [hnk]
      refine h w' ⟨by have := hown.1; simp; omega, .inr ⟨g, c, _, rfl, hb, hg'.out, hnc, hcm, ?_, ?_⟩⟩ hb'
      · simp [splice, hnk]; omega
      · simp only [splice, List.take_zero, List.nil_append, Nat.zero_add, hnk]
        rw [List.take_append, List.take_of_length_le (by omega), hnk, ← htake, List.drop_take]

/-- 'string(b)' of a slice of bytes that reads as zs. -/
theorem run_str {P : Program} {src e dst : TypeId} (hs : P.underlying src = some (.slice e)) (he : P.underlying e = some (.int .u8)) (hd : P.underlying dst = some .string) {w : World} {A : Option Addr} {n c : Nat} {zs : List Int} (h : Has w A n (ints .u8 zs)) :
    (convert src dst (.slice A n c)).run P w = .ok (.string (strOfNums zs)) w := by
  rcases Nat.eq_zero_or_pos n with h0 | h0
  · subst h0
    obtain rfl : zs = [] := List.eq_nil_of_length_eq_zero h.len
    cases A with
    | none => exact run_convert_bytes_nil w src e hs he 0 c dst hd
    | some a =>
      obtain ⟨b, o, sp⟩ := a
      cases sp with
      | none => exact run_convert_bytes_arg w src e hs he b o 0 c [] rfl (fun i hi => absurd hi (by omega)) dst hd
      | some q => rw [run_convert_bytes_string w src dst e _ 0 c hs he hd, run_bytesToString w _ 0 c [] (by simp [loadCells, loadCellsFrom])]; rfl
  · obtain ⟨b, o, hA, _⟩ := h.2 0 h0
    subst hA
    refine run_convert_bytes_arg w src e hs he b o n c zs h.len (fun i hi => ?_) dst hd
    obtain ⟨b', o', z, hA, _, hz, hc⟩ := h.at_ hi
    injection hA with hA
    injection hA with e1 e2
    subst e1 e2
    rw [hc]
    simp [List.getD, hz]

theorem Own.cap {w : World} {lo n c : Nat} {e : TypeId} {A : Option Addr} {xs : List Value} (h : Own w lo e A n c xs) : n ≤ c := by
  rcases h.2 with ⟨hv, h0⟩ | ⟨g, cap, cur, hv, _, _, hnc, _⟩
  · omega
  · cases hv; exact hnc

/-- An operation whose guard lets it be done is done as one without a guard. -/
theorem wpList_unguard {P : Program} {ops : Array Oper} {rest : List Oper} {o : Oper} {a : Act} {Q : Exit → Act → World → Prop} {w : World} (hw : Region.wanted o (yielded ops a.tmps) = true) (h : wpList P ops Q ({ o with guard := none } :: rest) a w) : wpList P ops Q (o :: rest) a w := by
  unfold wpList at h ⊢
  rw [if_pos hw]
  rw [if_pos (by rfl)] at h
  exact h

/-- 'b[l:]' of a slice that reads as xs. -/
theorem run_tail {P : Program} {w : World} {t e : TypeId} (ht : P.underlying t = some (.slice e)) (hz : ∀ w, (Go.sizeOf e).run P w = .ok 1 w) {A : Option Addr} {n c l : Nat} {xs : List Value} {z : Int} (h : Has w A n xs) (hnc : n ≤ c) (hl : l ≤ n) (hlz : z = (l : Int)) :
    ∃ B c', (∀ W, (Instr.slice t (.slice A n c) (some (.int .i64 z)) none none).run P W = .ok (.slice B (n - l) c') W) ∧ Has w B (n - l) (xs.drop l) := by
  subst hlz
  have ht' : P.underlying t = some (.slice (P.elem t)) := by simp [Program.elem, ht]
  have he : P.elem t = e := by simp [Program.elem, ht]
  have hxl := h.1
  by_cases hn : l = n
  · subst hn
    have hh : ∀ B, Has w B (l - l) (xs.drop l) := fun B => ⟨by simp [hxl], fun i hi => by omega⟩
    exact ⟨if c = l then A else A.map (·.add (l * 1)), c - l, fun W => by rw [run_slice_l W t _ _ _ ht' .i64 _ (by omega) (by omega), he, hz]; simp [Result.andThen, sliced], hh _⟩
  · obtain ⟨b, o, hA, _⟩ := h.2 0 (by omega)
    subst hA
    by_cases hc : c = l
    · omega
    · refine ⟨some ⟨b, o + l, none⟩, c - l, fun W => ?_, by simp [hxl], fun i hi => ?_⟩
      · rw [run_slice_l W t _ _ _ ht' .i64 _ (by omega) (by omega), he, hz]
        by_cases h0 : l = 0
        · subst h0; simp [Result.andThen, sliced, Addr.add, hc]
        · simp [Result.andThen, sliced, Addr.add, hc, h0]
      · obtain ⟨b', o', hA, hcell⟩ := h.2 (l + i) (by omega)
        injection hA with hA
        injection hA with e1 e2
        subst e1 e2
        refine ⟨b, o + l, rfl, ?_⟩
        rw [Nat.add_assoc, hcell, List.getElem?_drop]

theorem ret_int {k : IntKind} {a b : Int} (h : a = b) : Ending.returned (.int k a) = .returned (.int k b) := by rw [h]
theorem ret_bool {a b : Bool} (h : a = b) : Ending.returned (.bool a) = .returned (.bool b) := by rw [h]
end Go.Proofs.YthcfjnedpffbbaaDoor
