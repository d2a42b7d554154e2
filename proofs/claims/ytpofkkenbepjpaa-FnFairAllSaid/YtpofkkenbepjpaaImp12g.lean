/-
  Chapter 12's program, classes in turn in memory: what is proved here is how a ring of classes is read, taken from and appended to, what slices.Clone returns of one, and what do returns in one form. Condition: up to 1000 classes.
-/
import Derived.Test.YtpofkkenbepjpaaImp12f
import Derived.ArgAppend
import Derived.Lib.SliceRun
import Derived.Deep.Upon
namespace Go.Proofs.Ytpofkkenbepjpaa
open Go.RowKit Go.Shelf

attribute [local go_sem] Oper.semAt_some

abbrev TV := Int × Int × Value
def flatT : List TV → List Value
  | [] => []
  | h :: hs => .int .i64 h.1 :: .int .i64 h.2.1 :: h.2.2 :: flatT hs
theorem flatT_len (hs : List TV) : (flatT hs).length = hs.length * 3 := by
  induction hs with
  | nil => rfl
  | cons d ds ih => simp only [flatT, List.length_cons, ih]; omega
theorem flatT_app (a b : List TV) : flatT (a ++ b) = flatT a ++ flatT b := by
  induction a with
  | nil => rfl
  | cons d ds ih => simp [flatT, ih]
theorem flatT_at (hs : List TV) (i : Nat) (h : TV) (hi : hs[i]? = some h) : (flatT hs)[i * 3]? = some (.int .i64 h.1) ∧ (flatT hs)[i * 3 + 1]? = some (.int .i64 h.2.1) ∧ (flatT hs)[i * 3 + 2]? = some h.2.2 := by
  induction hs generalizing i with
  | nil => simp at hi
  | cons d ds ih =>
    cases i with
    | zero => simp at hi; subst hi; simp [flatT]
    | succ i =>
      have := ih i (by simpa using hi)
      have e : (i + 1) * 3 = i * 3 + 1 + 1 + 1 := by omega
      rw [e]
      simpa [flatT] using this
theorem Try.infoTurnClass : (Try.prog.info? 64).map (fun i => (i.zero, i.size, i.bytes)) = some (some (.agg #[.int .i64 0, .int .i64 0, .slice none 0 0]), 3, 40) := by kernel_rfl
theorem Try.underlyingTurnRing : Try.prog.underlying 58 = some (.slice 64) := by kernel_rfl

/-- Classes in a slice of some array, from a cell of it on, with room behind them. -/
def RingAt (W : World) (b off n c : Nat) (ts : List TV) : Prop :=
  (∃ cur, W.heap[b]? = some (.cells cur 64 (0, 0)) ∧ off + c * 3 ≤ cur.size) ∧ ts.length = n ∧ n ≤ c ∧ ∀ j v, (flatT ts)[j]? = some v → W.cell? ⟨b, off + j, none⟩ = some v
section
variable {W W' : World} {b off n c : Nat} {ts : List TV}
theorem RingAt.lt (h : RingAt W b off n c ts) : b < W.heap.size := by obtain ⟨⟨cur, h1, _⟩, _⟩ := h; exact (Array.getElem?_eq_some_iff.1 h1).1
theorem RingAt.keep (h : RingAt W b off n c ts) (he : W'.heap[b]? = W.heap[b]?) : RingAt W' b off n c ts := by
  obtain ⟨⟨cur, h1, h2⟩, h3, h4, h5⟩ := h
  exact ⟨⟨cur, he.trans h1, h2⟩, h3, h4, fun j v hv => (World.cell?_of_block (show W'.heap[(⟨b, off + j, none⟩ : Addr).block]? = W.heap[(⟨b, off + j, none⟩ : Addr).block]? from he)).trans (h5 j v hv)⟩
theorem RingAt.frozen (h : RingAt W b off n c ts) (j : Nat) : W.frozen? ⟨b, j, none⟩ = false := by obtain ⟨⟨cur, h1, _⟩, _⟩ := h; exact frozen_of_row W b j _ _ h1
theorem RingAt.head {t : TV} (h : RingAt W b off n c (t :: ts)) : W.cell? ⟨b, off, none⟩ = some (.int .i64 t.1) ∧ W.cell? ⟨b, off + 1, none⟩ = some (.int .i64 t.2.1) ∧ W.cell? ⟨b, off + 2, none⟩ = some t.2.2 :=
  ⟨h.2.2.2 0 _ rfl, h.2.2.2 1 _ rfl, h.2.2.2 2 _ rfl⟩
theorem RingAt.tail {t : TV} (h : RingAt W b off (n + 1) (c + 1) (t :: ts)) : RingAt W b (off + 3) n c ts := by
  obtain ⟨⟨cur, h1, h2⟩, h3, h4, h5⟩ := h
  refine ⟨⟨cur, h1, by omega⟩, by simpa using h3, by omega, fun j v hv => ?_⟩
  rw [show off + 3 + j = off + (j + 1 + 1 + 1) by omega]
  exact h5 _ v (by simpa [flatT] using hv)
theorem ringAt_none (h : RingAt W b off n c ts) : RingAt W b off 0 0 [] := by
  obtain ⟨⟨cur, h1, h2⟩, _⟩ := h
  exact ⟨⟨cur, h1, by omega⟩, rfl, Nat.le_refl _, fun j v hv => by simp [flatT] at hv⟩
theorem ringAt_own {lo g : Nat} (h : W.ownsRow lo 64 3 (.slice (some ⟨g, 0, none⟩) n c) n (flatT ts)) : RingAt W g 0 n c ts := by
  have hl := h.1
  rw [flatT_len] at hl
  rcases h.2 with ⟨hv, _⟩ | ⟨g', cap, cur, hv, hlo, hg, hnc, hcm, hcs, htk⟩
  · cases hv
  · injection hv with hA _ hcap
    injection hA with hA
    injection hA with hA
    subst hA hcap
    refine ⟨⟨cur, hg, by omega⟩, by omega, hnc, fun j v hv => ?_⟩
    rw [Nat.zero_add]
    have hj := (List.getElem?_eq_some_iff.1 hv).1
    exact (World.ownsRow.cellAt h j (by have := flatT_len ts; omega)).trans hv
end
theorem flatT_one (t : TV) : flatT [t] = [.int .i64 t.1, .int .i64 t.2.1, t.2.2] := rfl
/-- 'left = append(left, class)': where there is room in the array, and where there is none. -/
theorem wpListIn_push {F : Fence} {nF : Nat} (w : World) {ops : Array Oper} {rest : List Oper} {o : Oper} {a : Act} {Q : Exit → Act → World → Prop}
    (hg : o.guard = none) (s x : Operand) (hop : o.op = Op.call { callee := Callee.builtin Builtin.append, args := #[s, x], argTypes := #[58, 58] })
    (b off n c : Nat) (ts : List TV) (hs : a.eval s = .slice (some ⟨b, off, none⟩) n c) (hR : RingAt w b off n c ts) (hn : n ≤ 1000) (D c' : Nat) (t : TV) (hx : a.eval x = .slice (some ⟨D, 0, none⟩) 1 c')
    (hD : w.cell? ⟨D, 0, none⟩ = some (.int .i64 t.1) ∧ w.cell? ⟨D, 1, none⟩ = some (.int .i64 t.2.1) ∧ w.cell? ⟨D, 2, none⟩ = some t.2.2) (h1 : t.2.2.oneCell' = true)
    (hK : ∀ b' off' c2 w', RingAt w' b' off' (n + 1) c2 (ts ++ [t]) → w.grownBy w' (some b) → (b' = b ∨ w.heap.size ≤ b') → wpListIn F nF Try.prog ops Q rest (a.put o.dst (.slice (some ⟨b', off', none⟩) (n + 1) c2)) w') :
    wpListIn F nF Try.prog ops Q (o :: rest) a w := by
  obtain ⟨i, hi, hz, hsz, hby⟩ := info_partsD Try.infoTurnClass
  have hlen : ts.length = n := hR.2.1
  have hnews : ∀ j u, (flatT [t])[j]? = some u → w.cell? ((⟨D, 0, none⟩ : Addr).add j) = some u := by
    intro j u hu
    have hadd : (⟨D, 0, none⟩ : Addr).add j = ⟨D, j, none⟩ := by unfold Addr.add; split <;> simp_all
    rw [hadd]
    rw [flatT_one] at hu
    match j, hu with
    | 0, hu => simp at hu; rw [← hu]; exact hD.1
    | 1, hu => simp at hu; rw [← hu]; exact hD.2.1
    | 2, hu => simp at hu; rw [← hu]; exact hD.2.2
    | j + 3, hu => simp at hu
  have hone : ∀ u ∈ flatT [t], u.oneCell' = true := by
    intro u hu
    rw [flatT_one] at hu
    simp only [List.mem_cons, List.not_mem_nil, or_false] at hu
    rcases hu with hu | hu | hu
    · rw [hu]; rfl
    · rw [hu]; rfl
    · rw [hu]; exact h1
  have olds : ∀ j u, (flatT ts)[j]? = some u → w.cell? ((⟨b, off, none⟩ : Addr).add j) = some u := by
    intro j u hu
    have hadd : (⟨b, off, none⟩ : Addr).add j = ⟨b, off + j, none⟩ := by unfold Addr.add; split <;> simp_all
    rw [hadd]
    exact hR.2.2.2 j u hu
  have hlt := hR.lt
  refine wpListIn_plain hg fun K hK' => ?_
  unfold Oper.wpIn
  refine ⟨by simp [Oper.about, hop, resolve, Target.leads, Sem.run_pure], ?_⟩
  rw [Oper.semAt_plain F _ _ (by rw [hop]; intro c hc'; cases hc')]
  by_cases hroom : n + 1 ≤ c
  · have hcell : ∀ j, j < (flatT [t]).length → (w.cell? ⟨b, off + n * i.size + j, none⟩).isSome = true := by
      intro j hj
      obtain ⟨⟨cur, h1, h2⟩, _⟩ := hR
      rw [hsz, cell_of_row w b _ cur _ (0, 0) h1]
      have : (flatT [t]).length = 3 := rfl
      rw [Array.getElem?_eq_getElem (by omega)]; rfl
    have hrun := run_append_room_cells (P := Try.prog) w 58 o.type 64 i Try.underlyingTurnRing hi b off n c ⟨D, 0, none⟩ 1 c' (flatT [t]) (by rw [hsz]; rfl) hnews hone hroom hcell (fun j _ => hR.frozen _)
    simp [execOp, hop, resolve, invoke, builtin, hs, hx, hrun, Result.andThen]
    rw [hsz]
    have e3 : w.setCells b (off + n * 3) (flatT [t]) = ((w.setCell ⟨b, off + n * 3, none⟩ (.int .i64 t.1)).setCell ⟨b, off + n * 3 + 1, none⟩ (.int .i64 t.2.1)).setCell ⟨b, off + n * 3 + 1 + 1, none⟩ t.2.2 := rfl
    have hin := World.cell?_setCells_in b (flatT [t]) (off + n * 3) w (by rw [hsz] at hcell; exact hcell)
    have hout := fun x => World.cell?_setCells_out b (flatT [t]) (off + n * 3) w x
    rw [e3] at hin hout ⊢
    refine hK' _ _ (hK b off c _ ⟨?_, by rw [List.length_append, hlen]; rfl, hroom, ?_⟩ (gr_trans (gr_trans (set_grownJ w b _ _) (set_grownJ _ b _ _)) (set_grownJ _ b _ _)) (.inl rfl))
    · obtain ⟨⟨cur, h1, h2⟩, _⟩ := hR
      exact ⟨_, heap_setCell_same _ b _ _ _ _ (heap_setCell_same _ b _ _ _ _ (heap_setCell_same w b _ _ _ _ h1)), by simpa using h2⟩
    · intro j v hv
      rw [flatT_app] at hv
      have hfl := flatT_len ts
      by_cases hj : j < (flatT ts).length
      · rw [List.getElem?_append_left hj] at hv
        exact (hout ⟨b, off + j, none⟩ (fun _ _ => .inl (by show off + j < off + n * 3; omega))).trans (hR.2.2.2 j v hv)
      · rw [List.getElem?_append_right (by omega)] at hv
        have hj2 := (List.getElem?_eq_some_iff.1 hv).1
        have h3 := hin (j - (flatT ts).length) hj2
        rw [show off + n * 3 + (j - (flatT ts).length) = off + j by omega] at h3
        rw [h3]
        rw [List.getElem?_eq_getElem hj2] at hv
        exact hv
  · obtain ⟨v', w', hrun, hown, hgr⟩ := run_append_arg_grows (P := Try.prog) w 58 o.type 64 i (.agg #[.int .i64 0, .int .i64 0, .slice none 0 0]) 3 40 Try.underlyingTurnRing hi hz hsz hby rfl (by decide) ⟨b, off, none⟩ n c (flatT ts) (by rw [flatT_len]; omega) olds ⟨D, 0, none⟩ 1 c' (flatT [t]) rfl hnews (by omega) (by unfold maxLen; omega) (by omega)
    simp [execOp, hop, resolve, invoke, builtin, hs, hx, hrun, Result.andThen]
    rw [← flatT_app] at hown
    obtain ⟨g, cap, rfl, hgl, _⟩ := World.ownsRow.form hown (by omega)
    exact hK' _ _ (hK g 0 cap w' (ringAt_own hown) (grownJ_some hgr) (.inr hgl))
theorem flatT_ones {ts : List TV} (h : ∀ t ∈ ts, t.2.2.oneCell' = true) : ∀ u ∈ flatT ts, u.oneCell' = true := by
  induction ts with
  | nil => intro u hu; cases hu
  | cons t ts ih =>
    intro u hu
    simp only [flatT, List.mem_cons] at hu
    rcases hu with rfl | rfl | rfl | hu
    · rfl
    · rfl
    · exact h t (by simp)
    · exact ih (fun t ht => h t (by simp [ht])) u hu
set_option maxRecDepth 100000 in
set_option maxHeartbeats 2000000 in
theorem clone_any {b off n c : Nat} {ts : List TV} {w : World} (hR : RingAt w b off n c ts) (h0 : 0 < n) (hn : n ≤ 1000) (h1 : ∀ t ∈ ts, t.2.2.oneCell' = true) :
    Calls Try.prog 67 #[.slice (some ⟨b, off, none⟩) n c] w fun e w' => ∃ g c2, e = .returned (.slice (some ⟨g, 0, none⟩) n c2) ∧ RingAt w' g 0 n c2 ts ∧ w.heap.size ≤ g ∧ Below w.heap.size w w' := by
  obtain ⟨i, hi, hz, hsz, hby⟩ := info_partsD Try.infoTurnClass
  obtain ⟨W1, hW1⟩ : ∃ W1, w.alloc (.cells #[] 64) = W1 := ⟨_, rfl⟩
  have B1 : Below w.heap.size w W1 := by rw [← hW1]; exact below_allocJ w _
  have s1 := Lib.hid (show W1.heap.size = w.heap.size + 1 by rw [← hW1]; simp)
  have O1 : W1.ownsRow w.heap.size 64 3 (.slice (some ⟨w.heap.size, 0, none⟩) 0 0) 0 (flatT []) := by rw [← hW1]; exact World.ownsRow_lit w #[] 0 (Nat.le_refl _) (by unfold maxLen; omega) rfl
  have R1 := hR.keep (B1.block b hR.lt)
  have hnews : ∀ j u, (flatT ts)[j]? = some u → W1.cell? ((⟨b, off, none⟩ : Addr).add j) = some u := by
    intro j u hu
    have hadd : (⟨b, off, none⟩ : Addr).add j = ⟨b, off + j, none⟩ := by unfold Addr.add; split <;> simp_all
    rw [hadd]
    exact R1.2.2.2 j u hu
  have HNW := Lib.hid hnews
  have hlen : (flatT ts).length = n * 3 := by rw [flatT_len, hR.2.1]
  have hone := flatT_ones h1
  have HON := Lib.hid hone
  clear hnews hone h1
  have qT : ∀ (w : World) (a : Option Addr) (n c n' c' : Nat), (binOp .eql 58 (.slice a n c) (.slice none n' c')).run Try.prog w = .ok (.bool a.isNone) w := fun w a n c n' c' => Lib.run_eql_slice_nil w _ _ a n c n' c' Try.underlyingTurnRing
  go_enter Try.func67, Try.ntmps67
  go_wp2_with (at_builtin; refine wpList_append_lies W1 rfl (.tmp 5) (.tmp 6) 58 rfl w.heap.size 64 i (.agg #[.int .i64 0, .int .i64 0, .slice none 0 0]) 3 40 Try.underlyingTurnRing hi hz hsz hby rfl (by decide) _ 0 (flatT []) rfl O1 ⟨b, off, none⟩ n c (flatT ts) rfl hlen HNW.out HON.out h0 (by unfold maxLen; omega) (by omega) B1.size _ rfl ?_; intro g cap w2 O2 G2 E2 _)
  go_ret
  rw [Nat.zero_add] at O2
  have hgl : w.heap.size ≤ g := (World.ownsRow.lt O2 g rfl).1
  refine ⟨g, cap, rfl, ringAt_own O2, hgl, B1.grown G2 B1.size (fun k e => ?_)⟩
  injection e with e
  have e' : w.heap.size = k := e
  omega

def stopL (k : Int) (l : List Duo) : Prop := ∀ j l', l = j :: l' → ¬ j.2 ≤ k
theorem do_line {B q d : Nat} {g k : Int} {X : Option Addr} {l : List Duo} {w : World} (h : TcAt w B g k X q d) (hl : HasD w X q l) (hq : q ≤ 1000000) (hd : q ≤ d) (hk : 0 ≤ k ∧ k ≤ 89) (hok : lineOk l) (hne : ∀ b o, X = some ⟨b, o, none⟩ → 0 < q → b ≠ B) :
    Calls Try.prog 69 #[.pointer (some ⟨B, 0, none⟩)] w fun e w' => ∃ (ok : Bool) (x y k' : Int) (l' : List Duo) (X' : Option Addr) (q' d' : Nat), e = .returned (.tuple #[.agg #[.int .i64 x, .int .i64 y], .bool ok]) ∧ w.grownBy w' (some B) ∧ TcAt w' B g k' X' q' d' ∧ HasD w' X' q' l' ∧ q' ≤ d' ∧ (∀ b o, X' = some ⟨b, o, none⟩ → 0 < q' → ∃ o', X = some ⟨b, o', none⟩ ∧ 0 < q) ∧ ((ok = true ∧ l = (x, y) :: l' ∧ y ≤ k ∧ k' = k - y) ∨ (ok = false ∧ l' = l ∧ k' = k ∧ stopL k l)) := by
  by_cases hs : stopL k l
  · refine (do_no h hl hq hs).mono ?_
    rintro e w' ⟨rfl, G⟩
    exact ⟨false, 0, 0, k, l, X, q, d, rfl, grownJ_some G, (G.block B h.lt (by simp)).trans h, hl.keep (fun b o e h0 => by
      obtain ⟨b', o', f, t, hA, hb, _⟩ := hl.at_ h0
      rw [e] at hA
      injection hA with hA
      injection hA with e1 e2
      subst e1
      exact G.block b hb (by simp)), hd, fun b o e h0 => ⟨o, e, h0⟩, .inr ⟨rfl, rfl, rfl, hs⟩⟩
  · have : ∃ j l', l = j :: l' ∧ j.2 ≤ k := by
      unfold stopL at hs
      simp only [Classical.not_forall, Classical.not_not] at hs
      obtain ⟨j, l', e, h2⟩ := hs
      exact ⟨j, l', e, h2⟩
    obtain ⟨j, l', rfl, hj⟩ := this
    have hlen := hl.1
    simp only [List.length_cons] at hlen
    obtain ⟨q, rfl⟩ : ∃ q', q = q' + 1 := ⟨l'.length, hlen.symm⟩
    obtain ⟨d, rfl⟩ : ∃ d', d = d' + 1 := ⟨d - 1, by omega⟩
    refine (do_yes h hl (by omega) (by omega) hj hk (hok j (by simp)) (fun b o e => hne b o e (by omega))).mono ?_
    rintro e w' ⟨rfl, b, f, T', H', G', o', hX⟩
    exact ⟨true, j.1, j.2, k - j.2, l', some ⟨b, f, none⟩, q, d, rfl, G', T', H', by omega, fun b2 o2 e _ => by injection e with e; injection e with e1 e2; subst e1; exact ⟨o', hX, by omega⟩, .inl ⟨rfl, rfl, hj, rfl⟩⟩
end Go.Proofs.Ytpofkkenbepjpaa
