/-
  Chapter 9's program, stations before a slot: what is proved here is what next, goesOn and sending return, and what they write. Condition: at most 6 stations.
-/
import Derived.Test.YtpciaokafokfmaaImp9c
import Derived.Test.YtpciaokafokfmaaTalkC
namespace Go.Proofs.Ytpciaokafokfmaa
open Go.RowKit

/-- The block r holds the program's stations. -/
def IRow (w : World) (r : Nat) (t m o : Value) (h s : Int) (d : Bool) : Prop := w.heap[r]? = some (.cells #[t, m, o, .int .i64 h, .int .i64 s, .bool d] 60 (0, 0))
section
variable {w : World} {r : Nat} {t m o : Value} {h s : Int} {d : Bool}
theorem IRow.lt (k : IRow w r t m o h s d) : r < w.heap.size := (Array.getElem?_eq_some_iff.1 k).1
theorem IRow.cells (k : IRow w r t m o h s d) : w.cell? ⟨r, 0, none⟩ = some t ∧ w.cell? ⟨r, 1, none⟩ = some m ∧ w.cell? ⟨r, 2, none⟩ = some o ∧ w.cell? ⟨r, 3, none⟩ = some (.int .i64 h) ∧ w.cell? ⟨r, 4, none⟩ = some (.int .i64 s) ∧ w.cell? ⟨r, 5, none⟩ = some (.bool d) :=
  ⟨(cell_of_row w r 0 _ _ (0, 0) k).trans rfl, (cell_of_row w r 1 _ _ (0, 0) k).trans rfl, (cell_of_row w r 2 _ _ (0, 0) k).trans rfl, (cell_of_row w r 3 _ _ (0, 0) k).trans rfl, (cell_of_row w r 4 _ _ (0, 0) k).trans rfl, (cell_of_row w r 5 _ _ (0, 0) k).trans rfl⟩
theorem IRow.open_ (k : IRow w r t m o h s d) (i : Nat) : w.frozen? ⟨r, i, none⟩ = false := frozen_of_row w r i _ _ k
theorem IRow.draws (k : IRow w r t m o h s d) (m' : Value) : IRow (w.setCell ⟨r, 1, none⟩ m') r t m' o h s d := (heap_setCell_same w r 1 _ _ _ k).trans rfl
theorem IRow.order (k : IRow w r t m o h s d) (o' : Value) : IRow (w.setCell ⟨r, 2, none⟩ o') r t m o' h s d := (heap_setCell_same w r 2 _ _ _ k).trans rfl
theorem IRow.hits (k : IRow w r t m o h s d) (x : Int) : IRow (w.setCell ⟨r, 3, none⟩ (.int .i64 x)) r t m o x s d := (heap_setCell_same w r 3 _ _ _ k).trans rfl
theorem IRow.slots (k : IRow w r t m o h s d) (x : Int) : IRow (w.setCell ⟨r, 4, none⟩ (.int .i64 x)) r t m o h x d := (heap_setCell_same w r 4 _ _ _ k).trans rfl
theorem IRow.done (k : IRow w r t m o h s d) (x : Bool) : IRow (w.setCell ⟨r, 5, none⟩ (.bool x)) r t m o h s x := (heap_setCell_same w r 5 _ _ _ k).trans rfl
theorem IRow.grown {w' : World} {row : Option Nat} (k : IRow w r t m o h s d) (hg : w.grownBy w' row) (hne : row ≠ some r) : IRow w' r t m o h s d := (hg.block r k.lt (fun e => hne e.symm)).trans k
end
theorem ownK_not9 {W : World} {lo n c B g : Nat} {hs : List Tri} {fz : Nat × Nat} {t : TypeId} {cs : Array Value} (h : OwnK W lo 70 (some ⟨g, 0, none⟩) n c hs) (hB : W.heap[B]? = some (.cells cs t fz)) (ht : t ≠ 70) : g ≠ B := by
  intro e
  rcases h.2 with ⟨hv, _⟩ | ⟨g', cap, cur, hv, _, hgb, _⟩
  · cases hv
  · injection hv with hA _ _
    injection hA with hA
    injection hA with hA
    subst hA e
    rw [hB] at hgb
    injection hgb with hgb
    injection hgb with _ ht2
    exact ht ht2
theorem OwnK.grown9 {w w' : World} {e : TypeId} {lo n c g : Nat} {row : Option Nat} {hs : List Tri} (h : OwnK w lo e (some ⟨g, 0, none⟩) n c hs) (hg : w.grownBy w' row) (hne : row ≠ some g) : OwnK w' lo e (some ⟨g, 0, none⟩) n c hs :=
  World.ownsRow.kept h hg (.inr (fun e => hne e.symm))
theorem OwnK.lt9 {w : World} {e : TypeId} {lo n c g : Nat} {hs : List Tri} (h : OwnK w lo e (some ⟨g, 0, none⟩) n c hs) : lo ≤ g ∧ g < w.heap.size := World.ownsRow.lt h g rfl

theorem next_nil {w : World} {r cd k : Nat} {D : Option Addr} (hk : k < 6) (c1 : w.cell? ⟨r, 1, none⟩ = some (.slice D 0 cd)) :
    Calls Try.prog 63 #[.pointer (some ⟨r, 1, none⟩), .int .i64 (k : Int)] w fun e w' => e = .returned (.int .i64 (33 * (k : Int))) ∧ w = w' := by
  have W1 : IntKind.i64.wrap (32 * (k : Int)) = 32 * (k : Int) := IntWalk.i64_in _ (by omega)
  have W2 : IntKind.i64.wrap ((k : Int) + 32 * (k : Int)) = 33 * (k : Int) := by rw [IntWalk.i64_in _ (by omega)]; omega
  go_enter Try.func63, Try.ntmps63
  go_wp2
  go_ret
  exact ⟨rfl, rfl⟩
theorem next_cons {w : World} {r n cd k : Nat} {D B : Option Addr} {x : Int} {ds : List Int} (c1 : w.cell? ⟨r, 1, none⟩ = some (.slice D (n + 1) cd)) (f1 : w.frozen? ⟨r, 1, none⟩ = false) (hm : Has w D (n + 1) (ints .i64 (x :: ds))) (hne : ∀ a, D = some a → a.block ≠ r)
    (hB : ∀ W, (Instr.slice 58 (.slice D (n + 1) cd) (some (.int .i64 1)) none none).run Try.prog W = .ok (.slice B n (cd - 1)) W) :
    Calls Try.prog 63 #[.pointer (some ⟨r, 1, none⟩), .int .i64 (k : Int)] w fun e w' => e = .returned (.int .i64 x) ∧ w' = w.setCell ⟨r, 1, none⟩ (.slice B n (cd - 1)) := by
  obtain ⟨b, o', z, rfl, hbl, hx, hc⟩ := hm.at_ (show 0 < n + 1 by omega)
  obtain rfl : x = z := by simpa using hx
  have b1 : (0 : Int) < ((n + 1 : Nat) : Int) := by omega
  have b2 : (0 : Int) < (n : Int) + 1 := by omega
  have e1 : (((n + 1 : Nat) : Int) == 0) = false := by simp; omega
  have e2 : ((n : Int) + 1 == 0) = false := by simp; omega
  have e3 : (n + 1 == 0) = false := rfl
  rw [Nat.add_zero] at hc
  have hbr : b ≠ r := hne _ rfl
  have hrb : r ≠ b := Ne.symm hbr
  obtain ⟨W1, hW1⟩ : ∃ W1, w.setCell ⟨r, 1, none⟩ (.slice B n (cd - 1)) = W1 := ⟨_, rfl⟩
  have hc' : W1.cell? ⟨b, o', none⟩ = some (.int .i64 x) := by rw [← hW1]; exact ((World.cell?_setCell_far w ⟨r, 1, none⟩ ⟨b, o', none⟩ _ hrb)).trans hc
  rw [hW1]
  clear hx hm hne
  go_enter Try.func63, Try.ntmps63
  go_wp2
  go_ret
  exact ⟨rfl, rfl⟩

/- Which stations send, a bit for each. -/
def sb (ts : List Tk) (i : Nat) : Bool := ((ts[i]?).map sendsT).getD false
def maskTo (f : Nat → Bool) : Nat → Nat
  | 0 => 0
  | k + 1 => maskTo f k + (if f k then 2 ^ k else 0)
theorem maskTo_lt (f : Nat → Bool) : ∀ k, maskTo f k < 2 ^ k
  | 0 => by simp [maskTo]
  | k + 1 => by
    have := maskTo_lt f k
    rw [maskTo, Nat.pow_succ]
    split <;> omega
theorem maskTo_64 (f : Nat → Bool) {k : Nat} (h : k ≤ 6) : maskTo f k < 64 := Nat.lt_of_lt_of_le (maskTo_lt f k) (Nat.pow_le_pow_right (by omega) h)
theorem or_mask9 {M k : Nat} (hk : k < 6) (hM : M < 2 ^ k) : bits .or .u64 (M : Int) (IntKind.u64.wrap (2 ^ k)) = ((M + 2 ^ k : Nat) : Int) := by
  have key : ∀ k : Fin 6, ∀ M : Fin 64, M.val < 2 ^ k.val → bits .or .u64 (M.val : Int) (IntKind.u64.wrap (2 ^ k.val)) = ((M.val + 2 ^ k.val : Nat) : Int) := by decide +kernel
  exact key ⟨k, hk⟩ ⟨M, Nat.lt_of_lt_of_le hM (Nat.pow_le_pow_right (n := 2) (by omega) (show k ≤ 6 by omega))⟩ hM
theorem sb_at {ts : List Tk} {k : Nat} {x : Tk} (h : ts[k]? = some x) : sb ts k = sendsT x := by simp [sb, h]

set_option maxHeartbeats 2000000 in
theorem indexFunc_any {A : Option Addr} {n c : Nat} {ts : List Tk} {w : World} (h : HasK w A n ts) (hn : n ≤ 6) :
    Calls Try.prog 67 #[.slice A n c, .func (.func 58) #[] #[]] w fun e w' => ∃ z, e = .returned (.int .i64 z) ∧ (0 ≤ z ↔ goesL ts = true) ∧ Below w.heap.size w w' := by
  have HL := Lib.hid h.1
  go_enter Try.func67, Try.ntmps67
  go_wp2
  go_loopw [8] (fun i wr => ∃ k : Nat, k ≤ n ∧ i = .int .i64 (k : Int) ∧ Hid (∀ x ∈ ts.take k, x.1 ≤ 0) ∧ Below w.heap.size w wr) (fun i _ => n - (intOf i).toNat)
  case atStart => exact ⟨0, Nat.zero_le _, rfl, Lib.hid (fun x hx => by simp at hx), Below.refl _ _⟩
  case round =>
    obtain ⟨k, hk, rfl, HF, BW⟩ := hrel
    have sW := BW.size
    by_cases hlt : k < n
    · have hltB : decide ((k : Int) < (n : Int)) = true := by simp; omega
      have hltN : decide (k < n) = true := by simp; omega
      have kW : IntKind.i64.wrap ((k : Int) + 1) = ((k + 1 : Nat) : Int) := by rw [IntWalk.i64_in _ (by omega)]; omega
      obtain ⟨b, o, f, t, q, rfl, hbl, hx, c0, c1, c2⟩ := (h.bel BW).at_ hlt
      have HT := Lib.hid (show ts.take (k + 1) = ts.take k ++ [(f, t, q)] by rw [List.take_add_one, hx]; rfl)
      have HX := Lib.hid (List.mem_of_getElem? hx)
      have C := Lib.hid (hasFrames_any f t q wr)
      clear hx
      by_cases hf : 0 < f
      · rw [decide_eq_true hf] at C
        have HFF := Lib.hid hf
        clear hf
        go_wp2_with (fail)
        refine C.out.mono ?_
        rintro e w5 ⟨rfl, B5⟩
        go_wp2
        go_ret
        exact ⟨_, rfl, ⟨fun _ => goesL_iff.2 ⟨_, HX.out, HFF.out⟩, fun _ => by omega⟩, BW.trans (B5.mono sW)⟩
      · rw [decide_eq_false hf] at C
        have HFF := Lib.hid (show f ≤ 0 by omega)
        clear hf
        go_wp2_with (fail)
        refine C.out.mono ?_
        rintro e w5 ⟨rfl, B5⟩
        go_wp2
        go_roundw
        case rel => exact ⟨k + 1, by have := of_decide_eq_true hltN; omega, by simp, Lib.hid (fun x hx => by
          rw [HT.out] at hx
          rcases List.mem_append.1 hx with hx | hx
          · exact HF.out x hx
          · rw [List.mem_singleton.1 hx]; exact HFF.out), BW.trans (B5.mono sW)⟩
        case measure => have := of_decide_eq_true hltN; simp [intOf]; omega
    · have hltB : decide ((k : Int) < (n : Int)) = false := by simp; omega
      have hltN : decide (k < n) = false := by simp; omega
      obtain rfl : k = n := by omega
      have HG : Hid (goesL ts = false) := by
        have h1 := HF.out
        rw [List.take_of_length_le (by rw [HL.out]; omega)] at h1
        cases hg : goesL ts with
        | false => rfl
        | true =>
          obtain ⟨x, hx, hp⟩ := goesL_iff.1 hg
          have := h1 x hx
          omega
      go_wp2
      go_ret
      exact ⟨_, rfl, ⟨fun hh => by omega, fun hh => by rw [HG.out] at hh; cases hh⟩, BW⟩
theorem containsFunc_any {A : Option Addr} {n c : Nat} {ts : List Tk} {w : World} (h : HasK w A n ts) (hn : n ≤ 6) :
    Calls Try.prog 57 #[.slice A n c, .func (.func 58) #[] #[]] w fun e w' => e = .returned (.bool (goesL ts)) ∧ Below w.heap.size w w' := by
  have C := indexFunc_any (c := c) h hn
  cases hg : goesL ts with
  | true =>
    have C' := Lib.hid (show Calls Try.prog 67 #[.slice A n c, .func (.func 58) #[] #[]] w fun e w' => ∃ z, e = .returned (.int .i64 z) ∧ 0 ≤ z ∧ Below w.heap.size w w' from C.mono fun e w' ⟨z, h1, h2, h3⟩ => ⟨z, h1, h2.2 hg, h3⟩)
    clear C hg
    go_enter Try.func57, Try.ntmps57
    go_wp2_with (fail)
    refine C'.out.mono ?_
    rintro e w1 ⟨z, rfl, hz, B1⟩
    have z1 : decide (z ≥ 0) = true := by simp; omega
    have z2 : decide (0 ≤ z) = true := by simp; omega
    clear hz
    go_wp2
    go_ret
    exact ⟨rfl, B1⟩
  | false =>
    have C' := Lib.hid (show Calls Try.prog 67 #[.slice A n c, .func (.func 58) #[] #[]] w fun e w' => ∃ z, e = .returned (.int .i64 z) ∧ z < 0 ∧ Below w.heap.size w w' from C.mono fun e w' ⟨z, h1, h2, h3⟩ => ⟨z, h1, (by
      by_cases hz : z < 0
      · exact hz
      · have := h2.1 (by omega)
        rw [hg] at this
        cases this), h3⟩)
    clear C hg
    go_enter Try.func57, Try.ntmps57
    go_wp2_with (fail)
    refine C'.out.mono ?_
    rintro e w1 ⟨z, rfl, hz, B1⟩
    have z1 : decide (z ≥ 0) = false := by simp; omega
    have z2 : decide (0 ≤ z) = false := by simp; omega
    clear hz
    go_wp2
    go_ret
    exact ⟨rfl, B1⟩
theorem goesOn_any {w : World} {r n c : Nat} {A : Option Addr} {m o : Value} {h s : Int} {d : Bool} {ts : List Tk} (R : IRow w r (.slice A n c) m o h s d) (hT : HasK w A n ts) (hn : n ≤ 6) :
    Calls Try.prog 48 #[.pointer (some ⟨r, 0, none⟩)] w fun e w' => e = .returned (.bool (goesL ts)) ∧ Below w.heap.size w w' := by
  have c0 := R.cells.1
  go_enter Try.func48, Try.ntmps48
  go_wp2_with (fail)
  refine (containsFunc_any (c := c) hT hn).mono ?_
  rintro e w1 ⟨rfl, B1⟩
  go_wp2
  go_ret
  exact ⟨rfl, B1⟩
set_option maxHeartbeats 4000000 in
theorem sending_any {w : World} {r n c : Nat} {A : Option Addr} {m o : Value} {h s : Int} {d : Bool} {ts : List Tk} (R : IRow w r (.slice A n c) m o h s d) (hT : HasK w A n ts) (hn : n ≤ 6) :
    Calls Try.prog 59 #[.pointer (some ⟨r, 0, none⟩)] w fun e w' => e = .returned (.int .u64 (maskTo (sb ts) n : Int)) ∧ Below w.heap.size w w' := by
  have c0 := R.cells.1
  have HL := Lib.hid hT.1
  go_enter Try.func59, Try.ntmps59
  go_wp2
  go_loopw [3, 11] (fun u i wr => ∃ k : Nat, k ≤ n ∧ i = .int .i64 (k : Int) ∧ u = .int .u64 (maskTo (sb ts) k : Int) ∧ Below w.heap.size w wr) (fun _ i _ => n - (intOf i).toNat)
  case atStart => exact ⟨0, Nat.zero_le _, rfl, rfl, Below.refl _ _⟩
  case round =>
    obtain ⟨k, hk, rfl, rfl, BW⟩ := hrel
    have sW := BW.size
    by_cases hlt : k < n
    · have hltB : decide ((k : Int) < (n : Int)) = true := by simp; omega
      have hltN : decide (k < n) = true := by simp; omega
      have kW : IntKind.i64.wrap ((k : Int) + 1) = ((k + 1 : Nat) : Int) := by rw [IntWalk.i64_in _ (by omega)]; omega
      obtain ⟨b, o', f, t, q, rfl, hbl, hx, d0, d1, d2⟩ := (hT.bel BW).at_ hlt
      have HS := Lib.hid (sb_at hx)
      obtain ⟨W2, hW2⟩ : ∃ W2, wr.alloc (.cells #[.int .i64 f, .int .i64 t, .int .i64 q] 70) = W2 := ⟨_, rfl⟩
      have hX : W2.heap[wr.heap.size]? = some (.cells #[.int .i64 f, .int .i64 t, .int .i64 q] 70 (0, 0)) := hW2 ▸ heap_alloc_new wr _
      have B2 : Below wr.heap.size wr W2 := hW2 ▸ (Below.refl _ _).alloc (Nat.le_refl _) _
      obtain ⟨x0, x1, x2⟩ := cells3K hX
      have C := Lib.hid (sends_any f t q W2)
      cases hs : sendsT (f, t, q) with
      | false =>
        rw [hs] at C HS
        have HM := Lib.hid (show maskTo (sb ts) (k + 1) = maskTo (sb ts) k by rw [maskTo, HS.out]; simp)
        generalize maskTo (sb ts) k = M at *
        clear hs hx
        go_wp2_with (fail)
        refine C.out.mono ?_
        rintro e w5 ⟨rfl, B5⟩
        have E5 := BW.trans ((bel_trans B2 B5).mono sW)
        go_wp2
        go_roundw
        case rel => exact ⟨k + 1, by have := of_decide_eq_true hltN; omega, by simp, by rw [HM.out], E5⟩
        case measure => have := of_decide_eq_true hltN; simp [intOf]; omega
      | true =>
        rw [hs] at C HS
        have HM := Lib.hid (show maskTo (sb ts) (k + 1) = maskTo (sb ts) k + 2 ^ k by rw [maskTo, HS.out]; simp)
        have hM := maskTo_lt (sb ts) k
        generalize maskTo (sb ts) k = M at *
        clear hs hx
        go_wp2_with (fail)
        refine C.out.mono ?_
        rintro e w5 ⟨rfl, B5⟩
        have E5 := BW.trans ((bel_trans B2 B5).mono sW)
        have HO := or_mask9 (k := k) (by omega) hM
        clear hM
        go_wp2
        go_roundw
        case rel => exact ⟨k + 1, by have := of_decide_eq_true hltN; omega, by simp, by rw [HM.out]; simp, E5⟩
        case measure => have := of_decide_eq_true hltN; simp [intOf]; omega
    · have hltB : decide ((k : Int) < (n : Int)) = false := by simp; omega
      have hltN : decide (k < n) = false := by simp; omega
      obtain rfl : k = n := by omega
      go_wp2
      go_ret
      exact ⟨rfl, BW⟩
end Go.Proofs.Ytpciaokafokfmaa
