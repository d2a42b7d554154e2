/-
  Chapter 6's draws of frames: what is proved here is which numbers and frames are drawn, and that nothing that was there is written. No condition.
-/
import Derived.Test.YtmnhgghnaklneaaDrawBridge
import Derived.Test.YtmnhgghnaklneaaRunB
import Derived.Deep.AppendLies
namespace Go.Proofs.Ytmnhgghnaklneaa
open Go.RowKit

def flat3 : List Hop3 → List Value
  | [] => []
  | h :: hs => .int .i64 h.1 :: .int .i64 h.2.1 :: .int .i64 h.2.2 :: flat3 hs
theorem flat3_len (hs : List Hop3) : (flat3 hs).length = hs.length * 3 := by
  induction hs with
  | nil => rfl
  | cons d ds ih => simp only [flat3, List.length_cons, ih]; omega
theorem flat3_app (a b : List Hop3) : flat3 (a ++ b) = flat3 a ++ flat3 b := by
  induction a with
  | nil => rfl
  | cons d ds ih => simp [flat3, ih]
theorem flat3_at (hs : List Hop3) (i : Nat) (h : Hop3) (hi : hs[i]? = some h) : (flat3 hs)[i * 3]? = some (.int .i64 h.1) ∧ (flat3 hs)[i * 3 + 1]? = some (.int .i64 h.2.1) ∧ (flat3 hs)[i * 3 + 2]? = some (.int .i64 h.2.2) := by
  induction hs generalizing i with
  | nil => simp at hi
  | cons d ds ih =>
    cases i with
    | zero => simp at hi; subst hi; simp [flat3]
    | succ i =>
      have := ih i (by simpa using hi)
      have e : (i + 1) * 3 = i * 3 + 1 + 1 + 1 := by omega
      rw [e]
      simpa [flat3] using this
/-- A slice of frames that the call made. -/
def OwnH (w : World) (lo : Nat) (A : Option Addr) (n c : Nat) (hs : List Hop3) : Prop := w.ownsRow lo 33 3 (.slice A n c) n (flat3 hs)
theorem OwnH.has {w : World} {lo n c : Nat} {A : Option Addr} {hs : List Hop3} (h : OwnH w lo A n c hs) : HasH w A n hs := by
  have hl : hs.length = n := by have := h.1; rw [flat3_len] at this; omega
  refine ⟨hl, fun i hi => ?_⟩
  obtain ⟨g, cap, hv, _, _⟩ := World.ownsRow.form h (by omega)
  injection hv with hA _ hcap
  subst hA hcap
  have hx : hs[i]? = some hs[i] := List.getElem?_eq_getElem (by omega)
  obtain ⟨e0, e1, e2⟩ := flat3_at hs i _ hx
  refine ⟨g, 0, hs[i], rfl, hx, ?_, ?_, ?_⟩
  · rw [Nat.zero_add]; exact (World.ownsRow.cellAt h _ (by omega)).trans e0
  · rw [Nat.zero_add]; exact (World.ownsRow.cellAt h _ (by omega)).trans e1
  · rw [Nat.zero_add]; exact (World.ownsRow.cellAt h _ (by omega)).trans e2
/-- Frames as they are drawn. -/
def TinyH (hs : List Hop3) : Prop := ∀ h ∈ hs, (-1 ≤ h.1 ∧ h.1 ≤ 15) ∧ (-1 ≤ h.2.1 ∧ h.2.1 ≤ 16) ∧ (-1 ≤ h.2.2 ∧ h.2.2 ≤ 7)
theorem TinyH.i64 {hs : List Hop3} (h : TinyH hs) : I64H hs := fun x hx => by
  obtain ⟨h1, h2, h3⟩ := h x hx
  exact ⟨by omega, by omega, by omega⟩
theorem tinyH_nil : TinyH [] := fun h hh => by cases hh
theorem TinyH.snoc {hs : List Hop3} (h : TinyH hs) {x : Hop3} (hx : (-1 ≤ x.1 ∧ x.1 ≤ 15) ∧ (-1 ≤ x.2.1 ∧ x.2.1 ≤ 16) ∧ (-1 ≤ x.2.2 ∧ x.2.2 ≤ 7)) : TinyH (hs ++ [x]) := fun y hy => by
  rcases List.mem_append.1 hy with hy | hy
  · exact h y hy
  · rw [List.mem_singleton.1 hy]; exact hx
theorem Try.infoHop : (Try.prog.info? 33).map (fun i => (i.zero, i.size, i.bytes)) = some (some (.agg #[.int .i64 0, .int .i64 0, .int .i64 0]), 3, 24) := by kernel_rfl
theorem info_parts3 {P : Program} {e : TypeId} {z : Value} {s b : Nat} (h : (P.info? e).map (fun i => (i.zero, i.size, i.bytes)) = some (some z, s, b)) : ∃ i, P.info? e = some i ∧ i.zero = some z ∧ i.size = s ∧ i.bytes = b := by
  cases hi : P.info? e with
  | none => rw [hi] at h; cases h
  | some i => rw [hi] at h; simp at h; exact ⟨i, rfl, h.1, h.2.1, h.2.2⟩
/-- What is drawn: a number of ports, and frames. -/
def HopsO (w w' : World) (e : Ending) : Prop := ∃ ports A' n' c' hs, e = .returned (.tuple #[.int .i64 ports, .slice A' n' c']) ∧ HasH w' A' n' hs ∧ TinyH hs ∧ n' ≤ 20 ∧ (0 ≤ ports ∧ ports ≤ 7) ∧ Below w.heap.size w w'

set_option maxHeartbeats 4000000 in
theorem drawRunBridge_any {A : Option Addr} {n c : Nat} {zs : List Int} {w : World} (h : Has w A n (ints .u8 zs)) (hu : U8s zs) (hc : n ≤ c ∧ c ≤ maxLen) :
    Calls Try.prog 27 #[.slice A n c] w fun e w' => HopsO w w' e := by
  obtain ⟨i0, hi, hz0, hz1, hz2⟩ := info_parts3 Try.infoHop
  go_enter Try.func27, Try.ntmps27
  go_wp2_with (fail)
  refine (open_any h hu hc).mono ?_
  rintro e w1 ⟨r, rfl, R1, B1⟩
  have hrl := R1.lt
  have s1 := B1.size
  go_wp2_with (fail)
  refine (num_any (n := 10) (l := [3, 4, 2, 6, 1, 3, 4, 2, 0, 7]) (R1.alloc _) (by omega) (Has.row #[.int .i64 3, .int .i64 4, .int .i64 2, .int .i64 6, .int .i64 1, .int .i64 3, .int .i64 4, .int .i64 2, .int .i64 0, .int .i64 7] rfl rfl (by unfold maxLen; omega)) (fun ad ha => by injection ha with ha; subst ha; simp; omega) (by omega) (by omega)).mono ?_
  rintro e w2 ⟨ports, rfl, hv, R2, G2⟩
  have hpo : 0 ≤ ports ∧ ports ≤ 7 := by simp at hv; omega
  clear hv
  have G2' := gr_alloc G2
  have s2 := G2'.size
  have hr2 := R2.lt
  clear G2
  have O3 : OwnH (w2.alloc (.cells #[] 33)) w1.heap.size (some ⟨w2.heap.size, 0, none⟩) 0 0 [] := World.ownsRow_lit w2 #[] 0 s2 (by unfold maxLen; omega) rfl
  have R3 := R2.alloc (.cells #[] 33)
  have G3 := gr_bel G2' ((Below.refl _ _).alloc (Nat.le_refl _) (.cells #[] 33))
  go_wp2_with (fail)
  refine (num_any (n := 5) (l := [5, 9, 2, 0, 20]) (R3.alloc _) (by omega) (Has.rowAt #[.int .i64 5, .int .i64 9, .int .i64 2, .int .i64 0, .int .i64 20] rfl rfl (by decide) _ (by simp)) (fun ad ha => by injection ha with ha; subst ha; simp; omega) (by omega) (by omega)).mono ?_
  rintro e w4 ⟨v, rfl, hv, R4, G4⟩
  have hvb : 0 ≤ v ∧ v ≤ 20 := by simp at hv; omega
  obtain ⟨k0, rfl⟩ := Int.eq_ofNat_of_zero_le hvb.1
  have hk0 : k0 ≤ 20 := by omega
  clear hv hvb
  have G4' := gr_alloc G4
  have O4 : OwnH w4 w1.heap.size (some ⟨w2.heap.size, 0, none⟩) 0 0 [] := World.ownsRow.kept O3 G4' (.inr (by simp [Value.ownBlock]; omega))
  have G14 := gr_trans G3 G4'
  have s4 := G14.size
  clear O3 R3 G3 G4 G4' G2'
  go_wp2
  go_loopw [6, 7] (fun v i wr => ∃ (k : Nat) (A' : Option Addr) (m c' : Nat) (hs : List Hop3) (p' : Nat), k + m ≤ 20 ∧ i = .int .i64 (k : Int) ∧ v = .slice A' m c' ∧ OwnH wr w1.heap.size A' m c' hs ∧ TinyH hs ∧ p' ≤ 10 + 20 * m ∧ Rd wr w.heap.size r p' ∧ w1.grownBy wr (some r)) (fun _ i _ => (intOf i).toNat)
  case atStart => exact ⟨k0, _, 0, _, [], 0 + 1 + 1, by omega, rfl, rfl, O4, tinyH_nil, by omega, R4, G14⟩
  case round =>
    obtain ⟨k, A5, m, c5, hs, p5, hkm, rfl, rfl, O5, T5, hp5, R5, G5⟩ := hrel
    have s5 := G5.size
    by_cases hk : 0 < k
    · have hkB : decide ((k : Int) > 0) = true := by simp; omega
      have hkC : decide (0 < (k : Int)) = true := by simp; omega
      go_wp2_with (fail)
      refine (l6Hop_any R5 (by omega) hpo).mono ?_
      rintro e w6 h6
      unfold HopR at h6
      obtain ⟨f, t, q, p6, rfl, fb, tb, qb, hp6, R6, G6⟩ := h6
      have s6 := G6.size
      have O6 : OwnH w6 w1.heap.size A5 m c5 hs := World.ownsRow.kept O5 G6 (by
        cases A5 with
        | none => exact .inl rfl
        | some a => exact .inr (by have := World.ownsRow.lt O5 a.block rfl; simp [Value.ownBlock]; omega))
      have G16 := gr_trans G5 G6
      have O6a : (w6.alloc (.cells #[.int .i64 f, .int .i64 t, .int .i64 q] 33)).ownsRow w1.heap.size 33 3 (.slice A5 m c5) m (flat3 hs) := World.ownsRow.alloc O6 _
      go_wp2_with (at_builtin; refine wpList_append_lies (w6.alloc (.cells #[.int .i64 f, .int .i64 t, .int .i64 q] 33)) rfl (.tmp 21) (.tmp 25) 38 rfl w1.heap.size 33 i0 (.agg #[.int .i64 0, .int .i64 0, .int .i64 0]) 3 24 Try.underlying38 hi hz0 hz1 hz2 rfl (by decide) (.slice A5 m c5) m (flat3 hs) rfl O6a ⟨w6.heap.size, 0, none⟩ 1 1 (#[Value.int .i64 f, Value.int .i64 t, Value.int .i64 q] : Array Value).toList rfl rfl (World.news_of_block (heap_alloc_new w6 _)) (by simp [Value.oneCell']) (by decide) (by unfold maxLen; omega) (by omega) (by simp; omega) _ rfl ?_; intro g7 c7 w7 O7 G7 at7 _)
      have e7 : flat3 hs ++ (#[Value.int .i64 f, Value.int .i64 t, Value.int .i64 q] : Array Value).toList = flat3 (hs ++ [(f, t, q)]) := by rw [flat3_app]; rfl
      rw [e7] at O7
      have T7 := T5.snoc (x := (f, t, q)) ⟨fb, tb, qb⟩
      have hb7 : ∀ x, (Value.slice A5 m c5).ownBlock = some x → w1.heap.size ≤ x := fun x hx => (World.ownsRow.lt O5 x hx).1
      have R6a := R6.alloc (.cells #[.int .i64 f, .int .i64 t, .int .i64 q] 33)
      have R7 := R6a.grown G7 (fun x hx => by have := hb7 x hx; have := R6.1; exact ⟨by omega, by omega⟩)
      have G17 := gr_new (gr_bel G16 ((Below.refl _ _).alloc (Nat.le_refl _) _)) G7 hb7
      clear O6a O6 G7 at7 R6a e7 hb7 G16
      go_roundw
      case rel => exact ⟨k - 1, _, m + 1, _, hs ++ [(f, t, q)], _, by omega, by go_num, rfl, O7, T7, by omega, R7, G17⟩
      case measure => simp [intOf]; omega
    · have hkB : decide ((k : Int) > 0) = false := by simp; omega
      have hkC : decide (0 < (k : Int)) = false := by simp; omega
      obtain rfl : k = 0 := by omega
      have C5 := bel_read B1 R1 G5
      go_wp2
      go_ret2
      exact ⟨ports, _, _, _, hs, rfl, O5.has, T5, by omega, hpo, C5⟩
end Go.Proofs.Ytmnhgghnaklneaa
