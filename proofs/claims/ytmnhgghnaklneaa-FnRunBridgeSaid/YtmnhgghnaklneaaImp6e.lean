/-
  Chapter 6's program, what a bridge learns and where a frame goes: what is proved here is what they return, and that they write nothing that was there. Condition: lengths up to 2^24.
-/
import Derived.Test.YtmnhgghnaklneaaImp6d
namespace Go.Proofs.Ytmnhgghnaklneaa
open Go.RowKit Go.Shelf

theorem low_of {ts : List Int} {ports : Int} (h : tOk ts ports) : ∀ x ∈ ts, -1 ≤ x := fun x hx => (h.2.2 x hx).1
/-- The made iterator, collected. -/
theorem ports_collected {lo b nn P to : Nat} {port : Int} {ts : List Int} {w : World} (h : OwnM w lo b nn (tabF ts)) (ht : ∀ x ∈ ts, -1 ≤ x) (hto : to ≤ 15) (hP : P ≤ 6) :
    Calls Try.prog 60 #[.func (.func 71) #[] #[.pointer (some ⟨w.heap.size, 0, none⟩), .pointer (some ⟨w.heap.size + 1, 0, none⟩), .pointer (some ⟨w.heap.size + 2, 0, none⟩)]]
      (((w.alloc (.cells #[.int .i64 (P : Int), .map (some b)] 70)).alloc (.cells #[.int .i64 (to : Int)] 3)).alloc (.cells #[.int .i64 port] 3))
      fun e w' => ∃ A' n' c', e = .returned (.slice A' n' c') ∧ Own w' w.heap.size 3 A' n' c' (ints .i64 (portsTo (knownAt ts (to : Int)) port P)) ∧ Below w.heap.size w w' := by
  obtain ⟨D, hM, hS⟩ := seen_made (P := P) (to := to) (port := port) h
  have hsz : (((w.alloc (.cells #[.int .i64 (P : Int), .map (some b)] 70)).alloc (.cells #[.int .i64 (to : Int)] 3)).alloc (.cells #[.int .i64 port] 3)).heap.size = w.heap.size + 3 := by simp only [World.size_alloc]
  have B0 : Below w.heap.size w (((w.alloc (.cells #[.int .i64 (P : Int), .map (some b)] 70)).alloc (.cells #[.int .i64 (to : Int)] 3)).alloc (.cells #[.int .i64 port] 3)) :=
    (((Below.refl _ _).alloc (Nat.le_refl _) _).alloc (by simp only [World.size_alloc]; omega) _).alloc (by simp only [World.size_alloc]; omega) _
  generalize ((w.alloc (.cells #[.int .i64 (P : Int), .map (some b)] 70)).alloc (.cells #[.int .i64 (to : Int)] 3)).alloc (.cells #[.int .i64 port] 3) = W at hS hsz B0 ⊢
  refine (collect_any 71 _ (enters_of Try.func71 (by kernel_rfl) rfl) (fun ys => ys = portsTo (knownAt ts (to : Int)) port P) 6 (by decide) W (fun m hm => by
    have := iter_stops m hm (w.heap.size + 3) _ _ _ _ _ P to port D ts hM ht hto hP W (by omega) hS
    rw [← hsz] at this; exact this)).mono ?_
  rintro e w' ⟨A', n', c', xs, rfl, rfl, O, B⟩
  exact ⟨_, _, _, rfl, O.mono (by omega), B0.trans (B.mono (by omega))⟩

/-- A bridge, met by a frame: it learns, and gives the iterator. -/
theorem take_any {lo b nn s : Nat} {ports t q : Int} {T : Nat → Int} {w : World} (h : OwnM w lo b nn T) (hs : s < 15) (hq : 0 ≤ q ∧ q ≤ 6) (hn : nn ≤ 1000) :
    Calls Try.prog 63 #[.agg #[.int .i64 ports, .map (some b)], .agg #[.int .i64 (s : Int), .int .i64 t, .int .i64 q]] w fun e w' => ∃ w1,
      e = .returned (.func (.func 71) #[] #[.pointer (some ⟨w1.heap.size, 0, none⟩), .pointer (some ⟨w1.heap.size + 1, 0, none⟩), .pointer (some ⟨w1.heap.size + 2, 0, none⟩)]) ∧
      w' = ((w1.alloc (.cells #[.int .i64 ports, .map (some b)] 70)).alloc (.cells #[.int .i64 t] 3)).alloc (.cells #[.int .i64 q] 3) ∧
      OwnM w1 lo b (nn + 1) (fun i => if i = s then q else T i) ∧ w.grownBy w1 (some b) := by
  have hlt := h.lt
  have e1 := heap_alloc_new w (.cells #[.int .i64 ports, .map (some b)] 70)
  have e2 := heap_alloc_new (w.alloc (.cells #[.int .i64 ports, .map (some b)] 70)) (.cells #[.int .i64 (s : Int), .int .i64 t, .int .i64 q] 33)
  rw [World.size_alloc] at e2
  have B0 : Below w.heap.size w ((w.alloc (.cells #[.int .i64 ports, .map (some b)] 70)).alloc (.cells #[.int .i64 (s : Int), .int .i64 t, .int .i64 q] 33)) :=
    ((Below.refl _ _).alloc (Nat.le_refl _) _).alloc (by simp only [World.size_alloc]; omega) _
  have e1' := (Below.heap_alloc (w.alloc (.cells #[.int .i64 ports, .map (some b)] 70)) (.cells #[.int .i64 (s : Int), .int .i64 t, .int .i64 q] 33) w.heap.size (by simp)).trans e1
  have hsz : ((w.alloc (.cells #[.int .i64 ports, .map (some b)] 70)).alloc (.cells #[.int .i64 (s : Int), .int .i64 t, .int .i64 q] 33)).heap.size = w.heap.size + 2 := by simp only [World.size_alloc]
  have HL := Lib.hid (learn_any (ports := ports) (h.bel B0) hs hq hn)
  obtain ⟨j0, j1, j2⟩ := cells3 e2
  obtain ⟨i0, i1, _, _⟩ := two_cells e1'
  go_enter Try.func63, Try.ntmps63
  go_wp2_with (fail)
  refine HL.out.mono ?_
  rintro e w1 ⟨rfl, M1, G1⟩
  have f1 := (G1.block w.heap.size (by rw [hsz]; omega) (fun hh => by injection hh with hh; omega)).trans e1'
  have f2 := (G1.block (w.heap.size + 1) (by rw [hsz]; omega) (fun hh => by injection hh with hh; omega)).trans e2
  have G2 : w.grownBy w1 (some b) := World.grownBy.trans ((grown_of_below B0).but _) G1
  clear j0 j1 j2 i0 i1 e1 e2 e1' G1 B0
  obtain ⟨j0, j1, j2⟩ := cells3 f2
  obtain ⟨i0, i1, _, _⟩ := two_cells f1
  go_wp2_with (fail)
  refine (portsFor_any w1).mono ?_
  rintro e w2 ⟨rfl, rfl⟩
  go_wp2
  go_ret
  exact ⟨w1, rfl, rfl, M1, G2⟩
end Go.Proofs.Ytmnhgghnaklneaa
