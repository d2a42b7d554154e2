/-
  Chapter 10's draws: what is proved here is what is drawn, in memory of its own, and that nothing that was there is written. No condition.
-/
import Derived.Test.YtiokieancjigeaaDoorVlanL
import Derived.Test.YtiokieancjigeaaDoorDraw1
import Derived.Deep.RegionLaw
namespace Go.Proofs.YtiokieancjigeaaDoor
open Go.RowKit

theorem picked10 {m v : Int} (h : Picked m v) (hm : 1 ≤ m) : 0 ≤ v ∧ v < m := by unfold Picked at h; omega
/-- A row of ints is no block of another type. -/
theorem own_not10 {W : World} {lo n c B : Nat} {A : Option Addr} {xs : List Value} {fz : Nat × Nat} {t : TypeId} {cs : Array Value} (h : Own W lo 3 A n c xs) (hB : W.heap[B]? = some (.cells cs t fz)) (ht : t ≠ 3) : A.map (·.block) ≠ some B := by
  intro e
  cases A with
  | none => cases e
  | some a =>
    have e2 : a.block = B := by simpa using e
    rcases h.2 with ⟨hv, _⟩ | ⟨g, cap, cur, hv, _, hgb, _⟩
    · cases hv
    · injection hv with hA _ _
      injection hA with hA
      subst hA
      have : g = B := e2
      subst this
      rw [hB] at hgb
      injection hgb with hgb
      injection hgb with _ ht2
      exact ht ht2
theorem own_set10 {W : World} {lo n c R : Nat} {A : Option Addr} {xs : List Value} {t : TypeId} {cs : Array Value} {fz : Nat × Nat} (k : Own W lo 3 A n c xs) (r : W.heap[R]? = some (.cells cs t fz)) (ht : t ≠ 3) (i : Nat) (v : Value) : Own (W.setCell ⟨R, i, none⟩ v) lo 3 A n c xs :=
  k.grown (grown_set (World.grownBy.refl W (some R)) i v) (fun a ha e => own_not10 k r ht (by rw [ha]; exact e))
/-- A port in a variable. -/
def BoxP (w : World) (P : Nat) (x q : Int) (v : Value) : Prop := w.heap[P]? = some (.cells #[.int .i64 x, .int .i64 q, v] 32 (0, 0))
theorem BoxP.cells {w : World} {P : Nat} {x q : Int} {v : Value} (h : BoxP w P x q v) : w.cell? ⟨P, 0, none⟩ = some (.int .i64 x) ∧ w.cell? ⟨P, 1, none⟩ = some (.int .i64 q) ∧ w.cell? ⟨P, 2, none⟩ = some v := cells3K h
theorem BoxP.lt {w : World} {P : Nat} {x q : Int} {v : Value} (h : BoxP w P x q v) : P < w.heap.size := (Array.getElem?_eq_some_iff.1 h).1
theorem BoxP.grown {w w' : World} {P : Nat} {x q : Int} {v : Value} {row : Option Nat} (h : BoxP w P x q v) (hg : w.grownBy w' row) (hne : row ≠ some P) : BoxP w' P x q v := (hg.block P h.lt (fun e => hne e.symm)).trans h
theorem BoxP.car {w : World} {P : Nat} {x q : Int} {v : Value} (h : BoxP w P x q v) (u : Value) : BoxP (w.setCell ⟨P, 2, none⟩ u) P x q u := (heap_setCell_same w P 2 _ _ _ h).trans rfl
theorem BoxP.kind {w : World} {P : Nat} {x q : Int} {v : Value} (h : BoxP w P x q v) (y : Int) : BoxP (w.setCell ⟨P, 0, none⟩ (.int .i64 y)) P y q v := (heap_setCell_same w P 0 _ _ _ h).trans rfl
theorem BoxP.open_ {w : World} {P : Nat} {x q : Int} {v : Value} (h : BoxP w P x q v) (i : Nat) : w.frozen? ⟨P, i, none⟩ = false := frozen_of_row w P i _ _ h

/-- A port that is drawn of a source. -/
def PortR (w w' : World) (lo r p : Nat) (e : Ending) : Prop := ∃ X m d x q l p', e = .returned (.agg #[.int .i64 x, .int .i64 q, .slice X m d]) ∧ Own w' w.heap.size 3 X m d (ints .i64 l) ∧ m ≤ 9 ∧ p' ≤ p + 11 ∧ Rd w' lo r p' ∧ w.grownBy w' (some r)
set_option maxRecDepth 100000 in
set_option maxHeartbeats 8000000 in
theorem l10Draw_any {lo r p : Nat} {w : World} (h : Rd w lo r p) (hp : p ≤ 549755813888) :
    Calls Tryd.prog 37 #[.pointer (some ⟨r, 0, none⟩)] w fun e w' => PortR w w' lo r p e := by
  obtain ⟨i0, hi, hz0, hz1, hz2⟩ := info_parts Tryd.infoInt
  have hrl := h.lt
  have hlr := h.1
  go_enter Tryd.func37, Tryd.ntmps37
  go_wp2_with (fail)
  refine (pick_any (h.alloc _) (by omega) (by omega)).mono ?_
  rintro e w1 ⟨u, rfl, hu, R1, G1⟩
  have hub := picked10 hu (by omega)
  have K1 : BoxP w1 w.heap.size 0 0 (.slice none 0 0) := (G1.block w.heap.size (by simp) (by intro e; injection e with e; omega)).trans (heap_alloc_new w _)
  have G1' := gr_alloc G1
  have s1 := G1'.size
  have sl := K1.lt
  have uW : IntKind.i64.wrap (1 + u) = 1 + u := IntWalk.i64_in _ (by omega)
  clear hu G1
  go_wp2_with (fail)
  obtain ⟨W1, hW1⟩ : ∃ W1, w1.alloc (.cells #[.int .i64 1, .int .i64 (1 + u), .slice none 0 0] 32) = W1 := ⟨_, rfl⟩
  rw [hW1]
  have sW1 : W1.heap.size = w1.heap.size + 1 := by rw [← hW1]; simp
  have BW1 : Below w1.heap.size w1 W1 := by rw [← hW1]; exact below_allocP w1 _
  have P1 : BoxP W1 w1.heap.size 1 (1 + u) (.slice none 0 0) := by rw [← hW1]; exact heap_alloc_new w1 _
  have K1' := K1.grown (grown_of_below BW1) (by simp)
  have RW1 := R1.bel BW1
  have GW1 := gr_bel G1' BW1
  refine (pick_any RW1 (by omega) (by omega)).mono ?_
  rintro e w2 ⟨z, rfl, hz, R2, G2⟩
  clear hz
  have P2 := P1.grown G2 (by intro e; injection e with e; omega)
  have K2 := K1'.grown G2 (by intro e; injection e with e; omega)
  have G2' := gr_trans GW1 G2
  have s2 := G2'.size
  by_cases h0 : z = 0
  · subst h0
    obtain ⟨c0, c1, c2⟩ := P2.cells
    have f0 := P2.open_ 0
    have P3 := P2.kind 2
    have gS : w2.grownBy (w2.setCell ⟨w1.heap.size, 0, none⟩ (.int .i64 2)) (some w1.heap.size) := grown_set (World.grownBy.refl _ _) 0 _
    have K3 := K2.grown gS (by intro e; injection e with e; omega)
    have R3 := R2.grown gS (fun k hk => by injection hk with hk; omega)
    have G3 := gr_new G2' gS (fun k hk => by injection hk with hk; omega)
    have O3 : Own (w2.setCell ⟨w1.heap.size, 0, none⟩ (.int .i64 2)) w.heap.size 3 none 0 0 (ints .i64 []) := World.ownsRow_nil _ _ _ _
    clear gS
    go_wp2
    go_loopw [4] (fun i wr => ∃ (k j : Nat) (X : Option Addr) (d : Nat) (l : List Int) (p' : Nat), 1 ≤ k ∧ k ≤ 10 ∧ i = .int .i64 (k : Int) ∧ j + 1 ≤ k ∧ p' ≤ p + 1 + 1 + (k - 1) ∧ BoxP wr w1.heap.size 2 (1 + u) (.slice X j d) ∧ BoxP wr w.heap.size 0 0 (.slice none 0 0) ∧ Own wr w.heap.size 3 X j d (ints .i64 l) ∧ Rd wr lo r p' ∧ w.grownBy wr (some r)) (fun i _ => 10 - (intOf i).toNat)
    case atStart => exact ⟨1, 0, none, 0, [], p + 1 + 1, by omega, by omega, rfl, by omega, by omega, P3, K3, O3, R3, G3⟩
    case round =>
      obtain ⟨k, j, X, d, l, p', hk1, hk, rfl, hj, hp', P4, K4, O4, R4, G4⟩ := hrel
      obtain ⟨d0, d1, d2⟩ := P4.cells
      have s4 := G4.size
      by_cases hlt : k ≤ 9
      · have hltB : decide ((k : Int) ≤ 9) = true := by simp; omega
        by_cases hkq : (k : Int) = 1 + u
        · have qB : ((k : Int) != 1 + u) = false := by simp; omega
          go_wp2
          go_roundw
          case rel => exact ⟨k + 1, j, X, d, l, p', by omega, by omega, by go_num, by omega, by omega, P4, K4, O4, R4, G4⟩
          case measure => simp [intOf]; omega
        · have qB : ((k : Int) != 1 + u) = true := by simp; omega
          go_wp2_with (fail)
          refine (pick_any R4 (by omega) (by omega)).mono ?_
          rintro e w5 ⟨y, rfl, hy, R5, G5⟩
          clear hy
          have P5 := P4.grown G5 (by intro e; injection e with e; omega)
          have K5 := K4.grown G5 (by intro e; injection e with e; omega)
          have O5 := O4.past hrl G5
          have G45 := gr_trans G4 G5
          have s5 := G45.size
          by_cases hy0 : y = 0
          · subst hy0
            obtain ⟨e0, e1, e2⟩ := P5.cells
            clear d0 d1 d2
            go_wp2_with (at_builtin; refine wpList_apps _ rfl (.tmp 27) (.tmp 29) 26 rfl w.heap.size 3 i0 (.int .i64 0) 8 Tryd.underlying26 hi hz0 hz1 hz2 rfl X j d _ rfl O5 1 1 #[.int .i64 (k : Int)] rfl rfl (by simp [Value.oneCell']) (by decide) (by omega) (by decide) s5 ?_; intro g6 c6 w6 O6 G6 B6 at6; have P6 := P5.grown G6 (own_not10 O5 P5 (by decide)); have K6 := K5.grown G6 (own_not10 O5 K5 (by decide)); have f6 := P6.open_ 2; obtain ⟨q0, q1, q2⟩ := P6.cells)
            have gS : w6.grownBy (w6.setCell ⟨w1.heap.size, 2, none⟩ (.slice (some ⟨g6, 0, none⟩) (j + 1) c6)) (some w1.heap.size) := grown_set (World.grownBy.refl _ _) 2 _
            have P7 := P6.car (.slice (some ⟨g6, 0, none⟩) (j + 1) c6)
            have K7 := K6.grown gS (by intro e; injection e with e; omega)
            have O7 := own_set10 O6 P6 (by decide) 2 (.slice (some ⟨g6, 0, none⟩) (j + 1) c6)
            have R6 := R5.grown G6 (own_far O5 hrl R5)
            have R7 := R6.grown gS (fun k hk => by injection hk with hk; omega)
            have G7 := gr_new (gr_new G45 G6 (own_ge O5)) gS (fun k hk => by injection hk with hk; omega)
            go_roundw
            case rel => exact ⟨k + 1, j + 1, _, _, l ++ [(k : Int)], p' + 1, by omega, by omega, by go_num, by omega, by omega, P7, K7, by rw [ints_app]; exact O7, R7, G7⟩
            case measure => simp [intOf]; omega
          · have yB : (y == 0) = false := by simp [hy0]
            go_wp2
            go_roundw
            case rel => exact ⟨k + 1, j, X, d, l, p' + 1, by omega, by omega, by go_num, by omega, by omega, P5, K5, O5, R5, G45⟩
            case measure => simp [intOf]; omega
      · have hltB : decide ((k : Int) ≤ 9) = false := by simp; omega
        obtain rfl : k = 10 := by omega
        have hF := put3 (.int .i64 2) (.int .i64 (1 + u)) (.slice X j d) K4
        have kf := K4.open_
        have gS : wr.grownBy (((wr.setCell ⟨w.heap.size, 0, none⟩ (.int .i64 2)).setCell ⟨w.heap.size, 1, none⟩ (.int .i64 (1 + u))).setCell ⟨w.heap.size, 2, none⟩ (.slice X j d)) (some w.heap.size) := grown_set (grown_set (grown_set (World.grownBy.refl _ _) 0 _) 1 _) 2 _
        have hO := O4.grown gS (fun a ha e => own_not10 O4 K4 (by decide) (by rw [ha]; exact e))
        have hR := R4.grown gS (fun k hk => by injection hk with hk; omega)
        have hG := gr_new G4 gS (fun k hk => by injection hk with hk; omega)
        obtain ⟨k0, k1, k2⟩ := K4.cells
        go_wp2
        refine bodyPost_ret (results_cell_row rfl _ _ _ _ _ _ _ rfl hF Tryd.underlying32 rfl (by kernel_rfl)) rfl ?_
        exact ⟨X, j, d, _, _, l, p', rfl, hO, by omega, by omega, hR, hG⟩
  · have zB : (z == 0) = false := by simp [h0]
    obtain ⟨c0, c1, c2⟩ := P2.cells
    have hF := put3 (.int .i64 1) (.int .i64 (1 + u)) (.slice none 0 0) K2
    have kf := K2.open_
    have gS : w2.grownBy (((w2.setCell ⟨w.heap.size, 0, none⟩ (.int .i64 1)).setCell ⟨w.heap.size, 1, none⟩ (.int .i64 (1 + u))).setCell ⟨w.heap.size, 2, none⟩ (.slice none 0 0)) (some w.heap.size) := grown_set (grown_set (grown_set (World.grownBy.refl _ _) 0 _) 1 _) 2 _
    have hR := R2.grown gS (fun k hk => by injection hk with hk; omega)
    have hG := gr_new G2' gS (fun k hk => by injection hk with hk; omega)
    obtain ⟨k0, k1, k2⟩ := K2.cells
    clear h0
    go_wp2
    refine bodyPost_ret (results_cell_row rfl _ _ _ _ _ _ _ rfl hF Tryd.underlying32 rfl (by kernel_rfl)) rfl ?_
    exact ⟨none, 0, 0, _, _, [], p + 1 + 1, rfl, World.ownsRow_nil _ _ _ _, by omega, by omega, hR, hG⟩

section
variable {w w' wa : World} {lo n c g k : Nat} {pvs : List PV} {ps : List Port} {pv : PV}
theorem OwnP.inner_ne {A : Option Addr} (h : OwnP w lo A n c pvs ps) {i : Nat} {u : PV} (hi : pvs[i]? = some u) {b : Nat} (hb : u.2.2.ownBlock = some b) {g : Nat} (hA : A.map (·.block) = some g) : b ≠ g := fun e => h.2.2.2.1 i u hi b hb (by rw [e]; exact hA)
theorem OwnP.num0 {l : List Int} (h : OwnP w lo (some ⟨g, 0, none⟩) n c pvs ps) (hpv : pvs[k]? = some pv) (hp : ps[k]? = some (pv.1, pv.2.1, l)) (x : Int) :
    OwnP (w.setCell ⟨g, k * 3, none⟩ (.int .i64 x)) lo (some ⟨g, 0, none⟩) n c (pvs.set k (x, pv.2)) (ps.set k (x, pv.2.1, l)) := by
  have hk : k < n := by rw [← h.len.1]; exact (List.getElem?_eq_some_iff.1 hpv).1
  obtain ⟨q1, r1⟩ := World.ownsRow.stored h.1 (k * 3) (.int .i64 x)
  obtain ⟨_, _, B, m, d, k2, hO⟩ := h.2.2.1 k pv _ hpv hp
  refine h.upd hk ?_ (fun i u _ hi b hb => heap_setCell_other _ ⟨g, k * 3, none⟩ b _ (h.inner_ne hi hb rfl)) ⟨rfl, rfl, B, m, d, k2, hO.heapEqP fun b hb => heap_setCell_other _ ⟨g, k * 3, none⟩ b _ (h.inner_ne hpv (by rw [k2]; exact hb) rfl)⟩ fun b hb => ⟨fun e => h.inner_ne hpv hb e rfl, fun i u hik hi e => h.2.2.2.2 i k u pv hik hi hpv b e hb⟩
  rw [flatP_set0 pvs k pv x hpv] at q1
  exact q1
theorem OwnP.num1 {l : List Int} (h : OwnP w lo (some ⟨g, 0, none⟩) n c pvs ps) (hpv : pvs[k]? = some pv) (hp : ps[k]? = some (pv.1, pv.2.1, l)) (x : Int) :
    OwnP (w.setCell ⟨g, k * 3 + 1, none⟩ (.int .i64 x)) lo (some ⟨g, 0, none⟩) n c (pvs.set k (pv.1, x, pv.2.2)) (ps.set k (pv.1, x, l)) := by
  have hk : k < n := by rw [← h.len.1]; exact (List.getElem?_eq_some_iff.1 hpv).1
  obtain ⟨q1, r1⟩ := World.ownsRow.stored h.1 (k * 3 + 1) (.int .i64 x)
  obtain ⟨_, _, B, m, d, k2, hO⟩ := h.2.2.1 k pv _ hpv hp
  refine h.upd hk ?_ (fun i u _ hi b hb => heap_setCell_other _ ⟨g, k * 3 + 1, none⟩ b _ (h.inner_ne hi hb rfl)) ⟨rfl, rfl, B, m, d, k2, hO.heapEqP fun b hb => heap_setCell_other _ ⟨g, k * 3 + 1, none⟩ b _ (h.inner_ne hpv (by rw [k2]; exact hb) rfl)⟩ fun b hb => ⟨fun e => h.inner_ne hpv hb e rfl, fun i u hik hi e => h.2.2.2.2 i k u pv hik hi hpv b e hb⟩
  rw [flatP_set1 pvs k pv x hpv] at q1
  exact q1
/-- A port's networks are others: appended to them, or in new memory. -/
theorem OwnP.car2 {B Y : Option Addr} {m d m' d' : Nat} {x q : Int} {l l' : List Int} (h : OwnP w lo (some ⟨g, 0, none⟩) n c pvs ps) (hpv : pvs[k]? = some pv) (hv : pv.2.2 = .slice B m d) (hp : ps[k]? = some (x, q, l)) (hO : Own w' lo 3 Y m' d' (ints .i64 l')) (hg : w.grownBy w' (B.map (·.block))) (hat : ∀ b, (Value.slice Y m' d').ownBlock = some b → B.map (·.block) = some b ∨ w.heap.size ≤ b) :
    OwnP (w'.setCell ⟨g, k * 3 + 2, none⟩ (.slice Y m' d')) lo (some ⟨g, 0, none⟩) n c (pvs.set k (pv.1, pv.2.1, .slice Y m' d')) (ps.set k (x, q, l')) := by
  have hk : k < n := by rw [← h.len.1]; exact (List.getElem?_eq_some_iff.1 hpv).1
  obtain ⟨k0, k1, _⟩ := h.2.2.1 k pv _ hpv hp
  have hmap : ∀ b, B.map (·.block) = some b → pv.2.2.ownBlock = some b := fun b hb => by rw [hv]; cases B with
    | none => cases hb
    | some a => exact hb
  have hgl : g < w.heap.size := (h.row rfl).2
  have hYg : ∀ b, (Value.slice Y m' d').ownBlock = some b → b ≠ g := fun b hb e => by
    subst e
    rcases hat b hb with h1 | h1
    · exact h.inner_ne hpv (hmap b h1) rfl rfl
    · omega
  have hrow := (h.1).kept hg (.inr fun e => h.inner_ne hpv (hmap g e.symm) rfl rfl)
  obtain ⟨q1, r1⟩ := World.ownsRow.stored hrow (k * 3 + 2) (.slice Y m' d')
  rw [flatP_set2 pvs k pv _ hpv] at q1
  refine h.upd hk q1 (fun i u hik hi b hb => ?_) ⟨k0, k1, Y, m', d', rfl, hO.heapEqP fun b hb => heap_setCell_other _ ⟨g, k * 3 + 2, none⟩ b _ (hYg b hb)⟩ fun b hb => ⟨fun e => hYg b hb (by injection e with e; exact e.symm), fun i u hik hi e => ?_⟩
  · rw [heap_setCell_other _ ⟨g, k * 3 + 2, none⟩ b _ (h.inner_ne hi hb rfl)]
    exact hg.block b (h.inner hi hb).2 fun e => h.2.2.2.2 i k u pv hik hi hpv b hb (hmap b e.symm)
  · rcases hat b hb with h1 | h1
    · exact h.2.2.2.2 i k u pv hik hi hpv b e (hmap b h1)
    · have := (h.inner hi e).2; omega
theorem OwnP.after {B : Option Addr} {m d : Nat} (h : OwnP w lo (some ⟨g, 0, none⟩) n c pvs ps) (hpv : pvs[k]? = some pv) (hv : pv.2.2 = .slice B m d) (hg : w.grownBy w' (B.map (·.block))) (hk : k < n) :
    (∀ j, w'.frozen? ⟨g, j, none⟩ = false) ∧ w'.cell? ⟨g, k * 3 + 2, none⟩ = some (.slice B m d) := by
  have hmap : ∀ b, B.map (·.block) = some b → pv.2.2.ownBlock = some b := fun b hb => by rw [hv]; cases B with
    | none => cases hb
    | some a => exact hb
  have hrow := (h.1).kept hg (.inr fun e => h.inner_ne hpv (hmap g e.symm) rfl rfl)
  obtain ⟨_, _, e2⟩ := flatP_at pvs k _ hpv
  rw [hv] at e2
  have hl := h.len
  exact ⟨World.ownsRow.frozenAt hrow, (World.ownsRow.cellAt hrow _ (by omega)).trans e2⟩
end
theorem grown_of_allocD {w w' : World} {o : Obj} {row : Option Nat} (h : (w.alloc o).grownBy w' row) : w.grownBy w' row :=
  ⟨h.os, h.tape, h.output, Nat.le_trans (by simp) h.size, fun k hk hne => (h.block k (by simp; omega) hne).trans (heap_alloc_old w o hk)⟩
theorem Rd.set_ {w : World} {lo r p g j : Nat} {v : Value} (h : Rd w lo r p) (hg : lo ≤ g) (hr : g ≠ r) : Rd (w.setCell ⟨g, j, none⟩ v) lo r p :=
  h.grown (grown_set (World.grownBy.refl w (some g)) j v) (fun k hk => by injection hk with hk; subst hk; exact ⟨hg, hr⟩)
theorem gr_set {w w' : World} {r g j : Nat} {v : Value} (h : w.grownBy w' (some r)) (hg : w.heap.size ≤ g) : w.grownBy (w'.setCell ⟨g, j, none⟩ v) (some r) :=
  gr_new h (grown_set (World.grownBy.refl w' (some g)) j v) (fun k hk => by injection hk with hk; omega)
def LenD (ps : List Port) : Prop := ∀ p ∈ ps, p.2.2.length ≤ 10
def LenN (ps : List Port) : Prop := ∀ p ∈ ps, p.2.2.length ≤ 9
theorem LenN.lenD {ps : List Port} (h : LenN ps) : LenD ps := fun p hp => Nat.le_trans (h p hp) (by omega)
theorem LenN.snoc {ps : List Port} {p : Port} (h : LenN ps) (hp : p.2.2.length ≤ 9) : LenN (ps ++ [p]) := fun q hq => by
  rcases List.mem_append.1 hq with hq | hq
  · exact h q hq
  · rw [List.mem_singleton.1 hq]; exact hp
theorem LenD.lenP {ps : List Port} (h : LenD ps) : LenP ps := fun p hp => Nat.le_trans (h p hp) (by omega)
theorem LenD.set_ {ps : List Port} {k : Nat} {p : Port} (h : LenD ps) (hp : p.2.2.length ≤ 10) : LenD (ps.set k p) := fun q hq => by
  rcases List.mem_or_eq_of_mem_set hq with hq | rfl
  · exact h q hq
  · exact hp
theorem LenD.snoc {ps : List Port} {p : Port} (h : LenD ps) (hp : p.2.2.length ≤ 10) : LenD (ps ++ [p]) := fun q hq => by
  rcases List.mem_append.1 hq with hq | hq
  · exact h q hq
  · rw [List.mem_singleton.1 hq]; exact hp
theorem lenD_made (k : Nat) : LenD (List.replicate k (0, 0, [])) := fun q hq => by rw [List.mem_replicate] at hq; rw [hq.2]; simp
/-- Ports that are drawn of a source. -/
def PortsR (w w' : World) (lo r p : Nat) (e : Ending) : Prop := ∃ A n c pvs ps p', e = .returned (.slice A n c) ∧ OwnP w' w.heap.size A n c pvs ps ∧ LenD ps ∧ n ≤ 7 ∧ p' ≤ p + 200 ∧ Rd w' lo r p' ∧ w.grownBy w' (some r)
theorem LenD9 {l : List Int} {m : Nat} {A : Option Addr} {w : World} {lo d : Nat} (h : Own w lo 3 A m d (ints .i64 l)) (hm : m ≤ 9) : l.length ≤ 9 := by have := h.has.len; omega
set_option maxRecDepth 100000 in
set_option maxHeartbeats 16000000 in
theorem l10Ports_any {lo r p : Nat} {w : World} (h : Rd w lo r p) (hp : p ≤ 274877906944) :
    Calls Tryd.prog 21 #[.pointer (some ⟨r, 0, none⟩)] w fun e w' => PortsR w w' lo r p e := by
  obtain ⟨i0, hi, hz0, hz1, hz2⟩ := info_parts Tryd.infoInt
  obtain ⟨j0, hj, hy0, hy1, hy2⟩ := info_partsK Tryd.infoPort
  have hrl := h.lt
  have hlr := h.1
  go_enter Tryd.func21, Tryd.ntmps21
  go_wp2_with (fail)
  refine (num_any (n := 5) (l := [3, 4, 2, 6, 1]) ((h.alloc (.cells #[] 32)).alloc _) (by omega) (Has.rowAt #[.int .i64 3, .int .i64 4, .int .i64 2, .int .i64 6, .int .i64 1] rfl rfl (by decide) _ (by simp)) (fun ad ha => by injection ha with ha; subst ha; simp; omega) (by omega) (by omega)).mono ?_
  rintro e w1 ⟨v, rfl, hv, R1, G1⟩
  have hvb : 1 ≤ v ∧ v ≤ 6 := by simp at hv; omega
  obtain ⟨N, rfl⟩ := Int.eq_ofNat_of_zero_le (show 0 ≤ v by omega)
  have hN : 1 ≤ N ∧ N ≤ 6 := by omega
  clear hv hvb
  have O1 : OwnP w1 w.heap.size (some ⟨w.heap.size, 0, none⟩) 0 0 [] [] := ((ownP_lit w w.heap.size (Nat.le_refl _)).bel (below_allocP _ (.cells #[.int .i64 3, .int .i64 4, .int .i64 2, .int .i64 6, .int .i64 1] 3))).past hrl G1
  have G1' := gr_alloc (gr_alloc G1)
  clear G1
  go_wp2
  go_loopw [3, 4] (fun v i wr => ∃ (k q : Nat) (A' : Option Addr) (c' : Nat) (pvs : List PV) (ps : List Port) (p' : Nat), k + q = N ∧ i = .int .i64 ((k : Nat) : Int) ∧ v = .slice A' q c' ∧ OwnP wr w.heap.size A' q c' pvs ps ∧ LenN ps ∧ p' ≤ p + 1 + 11 * q ∧ Rd wr lo r p' ∧ w.grownBy wr (some r)) (fun _ i _ => (intOf i).toNat)
  case atStart => exact ⟨N, 0, _, _, [], [], p + 1, by omega, rfl, rfl, O1, (fun p hp => by cases hp), by omega, R1, G1'⟩
  case round =>
    obtain ⟨k, q, A1, c1, pvs, ps, p1, hk, rfl, rfl, O2, hl, hp1, R2, G2⟩ := hrel
    have hge := G2.size
    by_cases hlt : 0 < k
    · have g0 : decide ((k : Int) > 0) = true := decide_eq_true (by omega)
      have g1 : decide ((0 : Int) < (k : Int)) = true := decide_eq_true (by omega)
      have g2 : decide (0 < k) = true := decide_eq_true (by omega)
      obtain ⟨j, hj'⟩ : ∃ j, j = k - 1 := ⟨_, rfl⟩
      have kW : IntKind.i64.wrap ((k : Int) - 1) = (j : Int) := by rw [IntWalk.i64_in _ (by omega)]; omega
      have hq6 : q ≤ 6 := by omega
      have HK := Lib.hid (show j + (q + 1) = N by omega)
      have HJ := Lib.hid (show j < k by omega)
      clear hj' hk
      go_wp2_with (fail)
      refine (l10Draw_any R2 (by omega)).mono ?_
      rintro e w3 hX
      unfold PortR at hX
      obtain ⟨X, m, d, x, y, l, p3, rfl, O3, hm, hp3, R3, G3⟩ := hX
      have O23 := O2.past hrl G3
      have s3 := G3.size
      have hl9 := LenD9 O3 hm
      have G23 := gr_trans G2 G3
      have BA := below_allocP w3 (.cells #[.int .i64 x, .int .i64 y, .slice X m d] 32)
      have hA1 : (Value.slice A1 q c1).ownBlock = A1.map (·.block) := by cases A1 <;> rfl
      have O6 : (w3.alloc (.cells #[Value.int .i64 x, Value.int .i64 y, Value.slice X m d] 32)).ownsRow w.heap.size 32 3 (.slice A1 q c1) q (flatP pvs) := World.ownsRow.alloc O23.1 _
      have N6 := Lib.hid (World.news_of_block (w := w3.alloc (.cells #[Value.int .i64 x, Value.int .i64 y, Value.slice X m d] 32)) (B := w3.heap.size) (cs := #[Value.int .i64 x, Value.int .i64 y, Value.slice X m d]) (t := 32) (fr := (0, 0)) (heap_alloc_new w3 _))
      have Z6 : w.heap.size ≤ (w3.alloc (.cells #[Value.int .i64 x, Value.int .i64 y, Value.slice X m d] 32)).heap.size := by simp; omega
      have HC6 := Lib.hid (show q + 1 ≤ maxLen by unfold maxLen; omega)
      have HC7 := Lib.hid (show (q + 1) * 40 ≤ 140737488355328 by omega)
      go_wp2_with (at_builtin; refine wpList_append_lies _ rfl (.tmp 14) (.tmp 17) 23 rfl w.heap.size 32 j0 (.agg #[.int .i64 0, .int .i64 0, .slice none 0 0]) 3 40 Tryd.underlying23 hj hy0 hy1 hy2 rfl (by decide) (.slice A1 q c1) q (flatP pvs) rfl O6 ⟨w3.heap.size, 0, none⟩ 1 1 (#[Value.int .i64 x, Value.int .i64 y, Value.slice X m d] : Array Value).toList rfl rfl N6.out (by simp [Value.oneCell']) (by decide) HC6.out HC7.out Z6 _ rfl ?_; intro g4 c4 w4 O4 G4 hat4 _)
      have P4 := OwnP.snoc (O23.bel BA) O2 (by simp; omega) (p := (x, y, l)) hge (O3.bel BA) g4 c4 w4 (by rw [flatP_app]; exact O4) (by rw [← hA1]; exact G4) (by rw [← hA1]; exact hat4.imp id (fun e => Nat.le_of_eq e.symm))
      have R4 := (R3.bel BA).grown G4 (fun b hb => by rw [hA1] at hb; have h1 := O2.row hb; have h2 := R3.1; omega)
      have G5 := gr_new (gr_bel G23 BA) G4 (fun b hb => by rw [hA1] at hb; exact (O2.row hb).1)
      go_roundw
      case rel => exact ⟨j, q + 1, _, _, _, _, p3, HK.out, rfl, rfl, P4, hl.snoc (show l.length ≤ 9 by omega), by omega, R4, G5⟩
      case measure => have := HJ.out; simp [intOf]; omega
    · obtain rfl : k = 0 := by omega
      have g0 : decide (((0 : Nat) : Int) > 0) = false := rfl
      have g1 : decide ((0 : Int) > 0) = false := rfl
      obtain rfl : q = N := by omega
      have hlo : ∀ b, A1.map (·.block) = some b → w.heap.size ≤ b ∧ b < wr.heap.size := fun b hb => O2.row hb
      clear hk hlt
      go_wp2_with (fail)
      refine (pick_any (m := (q : Int)) R2 (by omega) (by omega)).mono ?_
      rintro e w3 ⟨u, rfl, hu, R3, G3⟩
      have hub := picked10 hu (by omega)
      obtain ⟨j, rfl⟩ := Int.eq_ofNat_of_zero_le hub.1
      have hjq : j < q := by omega
      clear hu hub
      have O3 := O2.past hrl G3
      have G23 := gr_trans G2 G3
      have s3 := G3.size
      obtain ⟨g, hA, hg1, hg2⟩ : ∃ g, A1 = some ⟨g, 0, none⟩ ∧ w.heap.size ≤ g ∧ g < wr.heap.size := by
        obtain ⟨g, cap, hv, h1, h2⟩ := World.ownsRow.form O2.1 (by omega)
        injection hv with hA _ _
        exact ⟨g, hA, h1, h2⟩
      subst hA
      have b0 : (0 : Int) ≤ (j : Int) := by omega
      have b1 : (j : Int) < (q : Int) := by omega
      have hgr : g ≠ r := by omega
      clear hlo
      go_wp2_with (fail)
      refine (pick_any R3 (by omega) (by omega)).mono ?_
      rintro e w4 ⟨t, rfl, ht, R4, G4⟩
      clear ht
      have O4 := O3.past hrl G4
      have G24 := gr_trans G23 G4
      have s4 := G4.size
      have s24 := G24.size
      by_cases t0 : t = 0
      · subst t0
        go_wp2_with (fail)
        refine (num_any (n := 2) (l := [0, 3]) (R4.alloc _) (by omega) (Has.row #[.int .i64 0, .int .i64 3] rfl rfl (by unfold maxLen; omega)) (fun ad ha => by injection ha with ha; subst ha; have := R4.lt; simp; omega) (by omega) (by omega)).mono ?_
        rintro e w5 ⟨z, rfl, hz, R5, G5⟩
        clear hz
        have O5 := (O4.bel (below_allocP w4 (.cells #[.int .i64 0, .int .i64 3] 3))).past hrl G5
        have G25 := gr_trans G24 (gr_alloc G5)
        obtain ⟨pv, B, m, d, l, hpv, hpv2, c0, c1', c2, fz, hO, hpp⟩ := O5.cells hjq
        have hl10 := hl.lenD _ (List.mem_of_getElem? hpp)
        have O6 := O5.num0 hpv hpp z
        have R6 := R5.set_ (j := j * 3) (v := .int .i64 z) (by omega) hgr
        have G6 := gr_set (j := j * 3) (v := .int .i64 z) G25 hg1
        have HL := Lib.hid (hl.lenD.set_ (k := j) (p := (z, pv.2.1, l)) hl10)
        clear hpv hpv2 hpp c1' c2 hO hl10
        go_wp2
        go_ret
        exact ⟨_, q, _, _, _, _, rfl, O6, HL.out, by omega, by omega, R6, G6⟩
      have t0B : (t == 0) = false := by simp [t0]
      by_cases t1 : t = 1
      · subst t1
        go_wp2_with (fail)
        refine (num_any (n := 2) (l := [0, 10]) (R4.alloc _) (by omega) (Has.row #[.int .i64 0, .int .i64 10] rfl rfl (by unfold maxLen; omega)) (fun ad ha => by injection ha with ha; subst ha; have := R4.lt; simp; omega) (by omega) (by omega)).mono ?_
        rintro e w5 ⟨z, rfl, hz, R5, G5⟩
        clear hz
        have O5 := (O4.bel (below_allocP w4 (.cells #[.int .i64 0, .int .i64 10] 3))).past hrl G5
        have G25 := gr_trans G24 (gr_alloc G5)
        obtain ⟨pv, B, m, d, l, hpv, hpv2, c0, c1', c2, fz, hO, hpp⟩ := O5.cells hjq
        have hl10 := hl.lenD _ (List.mem_of_getElem? hpp)
        have O6 := O5.num1 hpv hpp z
        have R6 := R5.set_ (j := j * 3 + 1) (v := .int .i64 z) (by omega) hgr
        have G6 := gr_set (j := j * 3 + 1) (v := .int .i64 z) G25 hg1
        have HL := Lib.hid (hl.lenD.set_ (k := j) (p := (pv.1, z, l)) hl10)
        clear hpv hpv2 hpp c0 c2 hO hl10
        go_wp2
        go_ret
        exact ⟨_, q, _, _, _, _, rfl, O6, HL.out, by omega, by omega, R6, G6⟩
      have t1B : (t == 1) = false := by simp [t1]
      by_cases t3 : t = 3
      · subst t3
        obtain ⟨pv, B, m, d, l, hpv, hpv2, c0, c1', c2, fz, hO, hpp⟩ := O4.cells hjq
        have hl10 : l.length ≤ 9 := hl _ (List.mem_of_getElem? hpp)
        have hm10 : m ≤ 9 := by have := hO.has.len; omega
        have HPV := Lib.hid hpv
        have HPV2 := Lib.hid hpv2
        have HPP := Lib.hid hpp
        have s04 : w.heap.size ≤ w4.heap.size := s24
        clear hpv hpv2 hpp c0 c1'
        go_wp2_with (at_builtin; refine wpList_apps _ rfl (.tmp 64) (.tmp 65) 26 rfl w.heap.size 3 i0 (.int .i64 0) 8 Tryd.underlying26 hi hz0 hz1 hz2 rfl B m d _ rfl hO 1 1 #[.int .i64 1] rfl rfl (by simp [Value.oneCell']) (by decide) (by omega) (by decide) s04 ?_; intro g6 c6 w6 O6 G6 B6 at6; obtain ⟨f6, e6⟩ := O4.after HPV.out HPV2.out G6 hjq)
        have O7 := O4.car2 (l' := l ++ [1]) HPV.out HPV2.out HPP.out (by rw [ints_app]; exact O6) G6 (fun b hb => by
          have hb' : g6 = b := by simpa [Value.ownBlock] using hb
          subst hb'
          exact at6)
        have R6 := R4.grown G6 (own_far hO hrl R4)
        have R7 := R6.set_ (j := j * 3 + 2) (v := .slice (some ⟨g6, 0, none⟩) (m + 1) c6) (by omega) hgr
        have G7 := gr_set (j := j * 3 + 2) (v := .slice (some ⟨g6, 0, none⟩) (m + 1) c6) (gr_new G24 G6 (own_ge hO)) hg1
        have HL := Lib.hid (hl.lenD.set_ (k := j) (p := (pv.1, pv.2.1, l ++ [1])) (show (l ++ [1]).length ≤ 10 by simp; omega))
        go_ret
        exact ⟨_, q, _, _, _, _, rfl, O7, HL.out, by omega, by omega, R7, G7⟩
      have t3B : (t == 3) = false := by simp [t3]
      by_cases t2 : t = 2
      · subst t2
        obtain ⟨D, hD⟩ : ∃ D, w4.drew = D := ⟨_, rfl⟩
        have BD : Below w4.heap.size w4 D := hD ▸ below_drewN w4 1
        have OD := O4.bel BD
        have RD := R4.bel BD
        have GD := gr_bel G24 BD
        have sD := GD.size
        obtain ⟨pv, B, m, d, l, hpv, hpv2, c0, c1', c2, fz, hO, hpp⟩ := OD.cells hjq
        obtain ⟨y, hy⟩ : ∃ y, pv.2.1 = y := ⟨_, rfl⟩
        rw [hy] at c1'
        have hl10 : l.length ≤ 9 := hl _ (List.mem_of_getElem? hpp)
        have hm10 : m ≤ 9 := by have := hO.has.len; omega
        have HPV := Lib.hid hpv
        have HPV2 := Lib.hid hpv2
        have HPP := Lib.hid hpp
        have O6 : (D.alloc (.cells #[Value.int .i64 y] 3)).ownsRow w.heap.size 3 1 (.slice B m d) m (ints .i64 l) := World.ownsRow.alloc hO _
        have N6 := Lib.hid (World.news_of_block (w := D.alloc (.cells #[Value.int .i64 y] 3)) (B := D.heap.size) (cs := #[Value.int .i64 y]) (t := 3) (fr := (0, 0)) (heap_alloc_new D _))
        have Z6 : w.heap.size ≤ (D.alloc (.cells #[Value.int .i64 y] 3)).heap.size := by simp; omega
        have hB1 : (Value.slice B m d).ownBlock = B.map (·.block) := by cases B <;> rfl
        have BDA := below_allocP D (.cells #[Value.int .i64 y] 3)
        have hgD : g < D.heap.size := (OD.row rfl).2
        have k1 := (BDA.cell (p := ⟨g, j * 3 + 1, none⟩) hgD).trans c1'
        have k2 := (BDA.cell (p := ⟨g, j * 3 + 2, none⟩) hgD).trans c2
        have HC6 := Lib.hid (show m + 1 ≤ maxLen by unfold maxLen; omega)
        have HC7 := Lib.hid (show (m + 1) * 8 ≤ 140737488355328 by omega)
        clear hpv hpv2 hpp c0 hy
        go_wp2
        go_region_law ((with_reducible refine step_append_lies _ rfl (.tmp 49) (.tmp 54) 26 rfl w.heap.size 3 i0 (.int .i64 0) 1 8 Tryd.underlying26 hi hz0 hz1 hz2 ?c1 ?c2 (.slice B m d) m (ints .i64 l) rfl O6 ⟨D.heap.size, 0, none⟩ 1 1 (#[Value.int .i64 y] : Array Value).toList rfl ?c3 N6.out ?c4 ?c5 ?c6 ?c7 Z6 _ rfl ?_); (case c1 => rfl); (case c2 => decide); (case c3 => rfl); (case c4 => simp [Value.oneCell']); (case c5 => decide); (case c6 => exact HC6.out); (case c7 => exact HC7.out); intro g6 c6 w6 O7 G7 hat7 _; obtain ⟨f6, e6⟩ := OD.after HPV.out HPV2.out (by rw [← hB1]; exact grown_of_allocD G7) hjq)
        all_goals
          have G8 : D.grownBy w6 (B.map (·.block)) := by rw [← hB1]; exact grown_of_allocD G7
          have O8 := OD.car2 (l' := l ++ [y]) HPV.out HPV2.out HPP.out (by rw [ints_app]; exact O7) G8 (fun b hb => by
            have hb' : g6 = b := by simpa [Value.ownBlock] using hb
            subst hb'
            rw [hB1] at hat7
            rcases hat7 with h7 | h7
            · exact .inl h7
            · right; rw [h7]; simp)
          have R6 := RD.grown G8 (own_far hO hrl RD)
          have R7 := R6.set_ (j := j * 3 + 2) (v := .slice (some ⟨g6, 0, none⟩) (m + 1) c6) (by omega) hgr
          have G9 := gr_set (j := j * 3 + 2) (v := .slice (some ⟨g6, 0, none⟩) (m + 1) c6) (gr_new GD G8 (own_ge hO)) hg1
          have HL := Lib.hid (hl.lenD.set_ (k := j) (p := (pv.1, pv.2.1, l ++ [y])) (show (l ++ [y]).length ≤ 10 by simp; omega))
          go_wp2
          go_ret
          exact ⟨_, q, _, _, _, _, rfl, O8, HL.out, by omega, by omega, R7, G9⟩
      have t2B : (t == 2) = false := by simp [t2]
      by_cases t4 : t = 4
      · subst t4
        go_wp2_with (fail)
        refine (num_any (n := 2) (l := [0, 7]) (R4.alloc _) (by omega) (Has.row #[.int .i64 0, .int .i64 7] rfl rfl (by unfold maxLen; omega)) (fun ad ha => by injection ha with ha; subst ha; have := R4.lt; simp; omega) (by omega) (by omega)).mono ?_
        rintro e w5 ⟨z, rfl, hz, R5, G5⟩
        have hzb : 0 ≤ z ∧ z ≤ 7 := by simp at hz; omega
        obtain ⟨Z, rfl⟩ := Int.eq_ofNat_of_zero_le hzb.1
        have hZ : Z ≤ 7 := by omega
        clear hz hzb
        have G25 := gr_trans G24 (gr_alloc G5)
        have s5 := G25.size
        go_wp2_with (refine wpList_make_full _ rfl _ _ 23 rfl w5.heap.size 32 j0 (.agg #[.int .i64 0, .int .i64 0, .slice none 0 0]) 3 Tryd.underlying23 hj hy0 hy1 .i64 .i64 _ _ Z rfl rfl rfl rfl (by rw [hy2]; omega) (by unfold maxLen; omega) (Nat.le_refl _) ?_; intro w6 hown hgrow)
        rw [flatP_zeros] at hown
        have O6 := (ownP_made hown).mono s5
        have B6 : Below w5.heap.size w5 w6 := below_of_grown hgrow (Nat.le_refl _) (fun k hk => by cases hk)
        have R6 := R5.bel B6
        have G6 := gr_bel G25 B6
        clear hown hgrow
        go_ret
        exact ⟨_, Z, _, _, _, _, rfl, O6, lenD_made Z, by omega, by omega, R6, G6⟩
      have t4B : (t == 4) = false := by simp [t4]
      clear t0 t1 t2 t3 t4
      go_wp2
      go_ret
      exact ⟨_, q, _, _, _, _, rfl, O4, hl.lenD, by omega, by omega, R4, G24⟩

/-- A variable's struct and a value behind it, as results. -/
theorem results_row_tmp10 {P : Program} {fn : Func} {p u : Tmp} {ty : TypeId} (h : fn.results = #[.cell p ty, .tmp u]) (tmps : Array Value) (w : World) (g : Nat) (t : TypeId) (cs : Array Value) (fr : Nat × Nat) (d : TypeDesc)
    (hp : tmps.getD p undef = .pointer (some ⟨g, 0, none⟩)) (hg : w.heap[g]? = some (.cells cs t fr))
    (hu : P.underlying ty = some d) (hd : (match d with | .struct _ | .array _ _ => true | _ => false) = true) (hi : (P.info? ty).map (·.size) = some cs.size) :
    (results fn tmps).run P w = .ok (.tuple #[.agg cs, tmps.getD u undef]) w := by
  rw [results_cell_tmp h]
  have hp' : tmps[p]?.getD undef = .pointer (some ⟨g, 0, none⟩) := by simpa using hp
  simp [hp', asAddr, run_loadVar_row w g t ty cs fr d hg hu hd hi, Result.andThen]
theorem OwnP.cellsAt {w : World} {lo n c g k m d : Nat} {B : Option Addr} {pvs : List PV} {ps : List Port} {pv : PV} (h : OwnP w lo (some ⟨g, 0, none⟩) n c pvs ps) (hpv : pvs[k]? = some pv) (hv : pv.2.2 = .slice B m d) :
    w.cell? ⟨g, k * 3, none⟩ = some (.int .i64 pv.1) ∧ w.cell? ⟨g, k * 3 + 1, none⟩ = some (.int .i64 pv.2.1) ∧ w.cell? ⟨g, k * 3 + 2, none⟩ = some (.slice B m d) := by
  have hl := h.len
  have hk : k < n := by rw [← hl.1]; exact (List.getElem?_eq_some_iff.1 hpv).1
  obtain ⟨e0, e1, e2⟩ := flatP_at pvs k _ hpv
  rw [hv] at e2
  exact ⟨(World.ownsRow.cellAt h.1 _ (by omega)).trans e0, (World.ownsRow.cellAt h.1 _ (by omega)).trans e1, (World.ownsRow.cellAt h.1 _ (by omega)).trans e2⟩
/-- What is drawn: a port and a number. -/
def PortN (w w' : World) (e : Ending) : Prop := ∃ X m d x q l t, e = .returned (.tuple #[.agg #[.int .i64 x, .int .i64 q, .slice X m d], .int .i64 t]) ∧ Own w' w.heap.size 3 X m d (ints .i64 l) ∧ m ≤ 10 ∧ Below w.heap.size w w'

/-- What is drawn: ports and two numbers. -/
def PortsNN (w w' : World) (e : Ending) : Prop := ∃ A n c ps a t, e = .returned (.tuple #[.slice A n c, .int .i64 a, .int .i64 t]) ∧ HasP w' A n ps ∧ LenD ps ∧ n ≤ 7 ∧ Below w.heap.size w w'
/-- What is drawn: ports and a number. -/
def PortsN (w w' : World) (e : Ending) : Prop := ∃ A n c ps a, e = .returned (.tuple #[.slice A n c, .int .i64 a]) ∧ HasP w' A n ps ∧ LenD ps ∧ n ≤ 7 ∧ Below w.heap.size w w'
set_option maxRecDepth 100000 in
set_option maxHeartbeats 4000000 in
theorem drawMeetIn_any {A : Option Addr} {n c : Nat} {zs : List Int} {w : World} (h : Has w A n (ints .u8 zs)) (hu : U8s zs) (hc : n ≤ c ∧ c ≤ maxLen) :
    Calls Tryd.prog 5 #[.slice A n c] w fun e w' => PortsNN w w' e := by
  go_enter Tryd.func5, Tryd.ntmps5
  go_wp2_with (fail)
  refine (open_any h hu hc).mono ?_
  rintro e w1 ⟨r, rfl, R1, B1⟩
  have hrl := R1.lt
  have s1 := B1.size
  go_wp2_with (fail)
  refine (l10Ports_any R1 (by omega)).mono ?_
  rintro e w2 hX
  unfold PortsR at hX
  obtain ⟨A2, n2, c2, pvs, ps, p2, rfl, O2, hl, hn2, hp2, R2, G2⟩ := hX
  have s2 := G2.size
  have e1 : IntKind.i64.wrap ((n2 : Int) + 1) = (n2 : Int) + 1 := IntWalk.i64_in _ (by omega)
  have e2 : IntKind.i64.wrap ((n2 : Int) + 2) = (n2 : Int) + 2 := IntWalk.i64_in _ (by omega)
  go_wp2_with (fail)
  refine (pick_any (m := (n2 : Int) + 1) R2 (by omega) (by omega)).mono ?_
  rintro e w3 ⟨v3, rfl, hv3, R3, G3⟩
  have O3 := O2.past hrl G3
  have G23 := gr_trans G2 G3
  clear hv3
  go_wp2_with (fail)
  refine (pick_any (m := (n2 : Int) + 2) R3 (by omega) (by omega)).mono ?_
  rintro e w4 ⟨v4, rfl, hv4, R4, G4⟩
  have hb4 := picked10 hv4 (by omega)
  have O4 := O3.past hrl G4
  have G24 := gr_trans G23 G4
  clear hv4
  go_wp2_with (fail)
  refine (pick_any R4 (by omega) (by omega)).mono ?_
  rintro e w5 ⟨v5, rfl, hv5, R5, G5⟩
  have hb5 := picked10 hv5 (by omega)
  have O5 := O4.past hrl G5
  have GF := gr_trans G24 G5
  clear hv5
  have q4 : v5.tdiv 7 = v5 / 7 := Int.tdiv_eq_ediv_of_nonneg (by omega)
  have q5 : IntKind.i64.wrap (v5 / 7) = v5 / 7 := IntWalk.i64_in _ (by omega)
  have q6 : IntKind.i64.wrap (v4 - v5 / 7) = v4 - v5 / 7 := IntWalk.i64_in _ (by omega)
  go_wp2
  refine bodyPost_ret (results_tmp3 rfl _ _ _) rfl ?_
  exact ⟨_, n2, _, ps, _, _, rfl, O5.has, hl, hn2, bel_read B1 R1 GF⟩
end Go.Proofs.YtiokieancjigeaaDoor
