/-
  The laws' own words for ports and frames that go out: what is proved here is how they are sized, copied, compared and marked. Condition: lengths up to 2^24.
-/
import Derived.Test.YtiokieancjigeaaDoorVlanB
import Derived.Deep.RegionWith
import Derived.Laws.ResultCell
namespace Go.Proofs.YtiokieancjigeaaDoor
open Go.RowKit

theorem szIntS_p {A : Option Addr} {n c : Nat} {L : Int} {w : World} (hn : n ≤ 9223372036854775807) (hL : 0 ≤ L ∧ L ≤ 1048576) : Calls Tryd.prog 47 #[.slice A n c, .int .i64 L] w fun e w' => e = .returned (.int .i64 (if L < n then -1 else L - n)) ∧ w = w' := by
  obtain ⟨l0, l1⟩ := hL
  by_cases h : L < (n : Int)
  · rw [if_pos h]
    go_enter Tryd.func47, Tryd.ntmps47
    go_wp2
    go_ret
    exact ⟨rfl, rfl⟩
  · rw [if_neg h]
    go_enter Tryd.func47, Tryd.ntmps47
    go_wp2
    go_ret
    exact ⟨rfl, rfl⟩
def szV (L : Int) (n : Nat) : Int := if L < n then -1 else L - n
theorem szV_no {L : Int} {n : Nat} (h : L < n) : szV L n = -1 := by unfold szV; rw [if_pos h]
theorem szV_yes {L : Int} {n : Nat} (h : ¬ L < n) : szV L n = L - n := by unfold szV; rw [if_neg h]
set_option maxHeartbeats 1000000 in
theorem szVPort_r {B : Option Addr} {m d : Nat} {x q L r : Int} {w : World} (hm : m ≤ 9223372036854775807) (hL : 0 ≤ L ∧ L ≤ 1048576) (hr : szV L m = r) :
    Calls Tryd.prog 33 #[.agg #[.int .i64 x, .int .i64 q, .slice B m d], .int .i64 L] w fun e w' => e = .returned (.int .i64 r) ∧ Below w.heap.size w w' := by
  have HR := Lib.hid hr
  clear hr
  obtain ⟨W, hW⟩ : ∃ W, w.alloc (.cells #[.int .i64 x, .int .i64 q, .slice B m d] 71) = W := ⟨_, rfl⟩
  have BA : Below w.heap.size w W := by rw [← hW]; exact below_allocP w _
  have hWn : W.heap[w.heap.size]? = some (.cells #[.int .i64 x, .int .i64 q, .slice B m d] 71 (0, 0)) := by rw [← hW]; exact heap_alloc_new w _
  obtain ⟨c0, c1, c2⟩ := cells3K hWn
  have C := Lib.hid (szIntS_p (A := B) (n := m) (c := d) (w := W) hm hL)
  by_cases h : L < (m : Int)
  · rw [if_pos h] at C
    have HE := Lib.hid (szV_no h)
    clear h hWn
    go_enter Tryd.func33, Tryd.ntmps33
    go_wp2_with (fail)
    refine C.out.mono ?_
    rintro e w' ⟨rfl, rfl⟩
    go_wp2
    go_ret
    exact ⟨ret_int (HE.out.symm.trans HR.out), BA⟩
  · rw [if_neg h] at C
    have hB : decide (L - (m : Int) < 0) = false := by simp; omega
    have HE := Lib.hid (szV_yes h)
    clear h hWn
    go_enter Tryd.func33, Tryd.ntmps33
    go_wp2_with (fail)
    refine C.out.mono ?_
    rintro e w' ⟨rfl, rfl⟩
    go_wp2
    go_ret
    exact ⟨ret_int (HE.out.symm.trans HR.out), BA⟩
def MaxP (ps : List Port) : Prop := ∀ p ∈ ps, p.2.2.length ≤ maxLen
def SmallP (n : Nat) (ps : List Port) : Prop := ∀ p ∈ ps, p.2.2.length + n ≤ 1048576
theorem SmallP.lenP {n : Nat} {ps : List Port} (h : SmallP n ps) : LenP ps := fun p hp => by have := h p hp; omega
set_option maxHeartbeats 2000000 in
theorem szVPortS_any {A : Option Addr} {n c : Nat} {ps : List Port} {w : World} (h : HasP w A n ps) (hn : n ≤ 9223372036854775807) (hl : MaxP ps) :
    Calls Tryd.prog 13 #[.slice A n c, .int .i64 1048576] w fun e w' => ∃ v, e = .returned (.int .i64 v) ∧ -1 ≤ v ∧ v ≤ 1048576 ∧ Hid (0 ≤ v → n ≤ 1048576 ∧ SmallP n ps) ∧ Below w.heap.size w w' := by
  have HL := Lib.hid h.1
  by_cases hnn : (1048576 : Int) < (n : Int)
  · have gB : decide ((1048576 : Int) - (n : Int) < 0) = true := by simp; omega
    clear hnn
    go_enter Tryd.func13, Tryd.ntmps13
    go_wp2
    go_ret
    exact ⟨-1, rfl, by omega, by omega, Lib.hid (fun h0 => by omega), Below.refl _ _⟩
  · have hn2 : n ≤ 1048576 := by omega
    have gB : decide ((1048576 : Int) - (n : Int) < 0) = false := by simp; omega
    go_enter Tryd.func13, Tryd.ntmps13
    go_wp2
    go_loopw [1, 5] (fun q i wr => ∃ k : Nat, ∃ v : Int, k ≤ n ∧ 0 ≤ v ∧ v + (n : Int) ≤ 1048576 ∧ i = .int .i64 k ∧ q = .int .i64 v ∧ Hid (∀ p ∈ ps.take k, p.2.2.length + n ≤ 1048576) ∧ Below w.heap.size w wr) (fun _ i _ => n - (intOf i).toNat)
    case atStart => exact ⟨0, 1048576 - (n : Int), Nat.zero_le _, by omega, by omega, rfl, rfl, Lib.hid (fun p hp => by simp at hp), Below.refl _ _⟩
    case round =>
      obtain ⟨k, v, hk, v0, v1, rfl, rfl, HV, BW⟩ := hrel
      by_cases hlt : k < n
      · have hltB : decide ((k : Int) < (n : Int)) = true := by simp; omega
        obtain ⟨b, o, B, m, d, x, q, l, rfl, hbl, hx, c0, c1, c2, hmd, hH⟩ := (h.bel BW).at_ hlt
        have hml : m ≤ maxLen := by have h1 := hl _ (List.mem_of_getElem? hx); have h2 := hH.len; have h3 : l.length ≤ maxLen := h1; omega
        have hm9 : m ≤ 9223372036854775807 := Nat.le_trans hml (by unfold maxLen; omega)
        have HX := Lib.hid hx
        have HM := Lib.hid hH.len
        clear hx hml
        by_cases hv : v < (m : Int)
        · have C := Lib.hid (szVPort_r (B := B) (m := m) (d := d) (x := x) (q := q) (L := v) (w := wr) hm9 ⟨v0, by omega⟩ (szV_no hv))
          go_wp2_with (fail)
          refine C.out.mono ?_
          rintro e w1 ⟨rfl, B1⟩
          go_wp2
          go_ret
          exact ⟨-1, rfl, by omega, by omega, Lib.hid (fun h0 => by omega), BW.trans (B1.mono BW.size)⟩
        · have C := Lib.hid (szVPort_r (B := B) (m := m) (d := d) (x := x) (q := q) (L := v) (w := wr) hm9 ⟨v0, by omega⟩ (szV_yes hv))
          have hvB : decide (v - (m : Int) < 0) = false := by simp; omega
          have HV2 : Hid (∀ p ∈ ps.take (k + 1), p.2.2.length + n ≤ 1048576) := by
            have : ∀ p ∈ ps.take (k + 1), p.2.2.length + n ≤ 1048576 := by
              intro p hp
              rw [List.take_add_one, HX.out] at hp
              rcases List.mem_append.1 hp with hp | hp
              · exact HV.out p hp
              · simp at hp; subst hp; have h1 := HM.out; show l.length + n ≤ 1048576; omega
            exact this
          go_wp2_with (fail)
          refine C.out.mono ?_
          rintro e w1 ⟨rfl, B1⟩
          go_wp2
          go_roundw
          case rel => exact ⟨k + 1, v - (m : Int), by omega, by omega, by omega, by go_num, rfl, HV2, BW.trans (B1.mono BW.size)⟩
          case measure => simp [intOf]; omega
      · have hltB : decide ((k : Int) < (n : Int)) = false := by simp; omega
        obtain rfl : k = n := by omega
        have HE : Hid (SmallP k ps) := by
          have h1 := HV.out
          rw [List.take_of_length_le (by have := HL.out; omega)] at h1
          exact h1
        go_wp2
        go_ret
        exact ⟨v, rfl, by omega, by omega, Lib.hid (fun _ => ⟨hn2, HE.out⟩), BW⟩

theorem put3 {w : World} {R : Nat} {a b c : Value} {t : TypeId} (x y z : Value) (k : w.heap[R]? = some (.cells #[a, b, c] t (0, 0))) : (((w.setCell ⟨R, 0, none⟩ x).setCell ⟨R, 1, none⟩ y).setCell ⟨R, 2, none⟩ z).heap[R]? = some (.cells #[x, y, z] t (0, 0)) :=
  (heap_setCell_same _ R 2 _ _ _ ((heap_setCell_same _ R 1 _ _ _ ((heap_setCell_same w R 0 _ _ _ k).trans rfl)).trans rfl)).trans rfl
theorem put3_far {w : World} {R R' : Nat} (x y z : Value) (h : R' ≠ R) : (((w.setCell ⟨R, 0, none⟩ x).setCell ⟨R, 1, none⟩ y).setCell ⟨R, 2, none⟩ z).heap[R']? = w.heap[R']? :=
  (heap_setCell_other _ ⟨R, 2, none⟩ R' _ h).trans ((heap_setCell_other _ ⟨R, 1, none⟩ R' _ h).trans (heap_setCell_other _ ⟨R, 0, none⟩ R' _ h))
set_option maxRecDepth 100000 in
set_option maxHeartbeats 4000000 in
theorem toVPort_any {B : Option Addr} {m d : Nat} {x q : Int} {l : List Int} {w : World} (h : Has w B m (ints .i64 l)) (hm : m ≤ 16777216) :
    Calls Tryd.prog 34 #[.agg #[.int .i64 x, .int .i64 q, .slice B m d]] w fun e w' => ∃ g, e = .returned (.agg #[.int .i64 x, .int .i64 q, .slice (some ⟨g, 0, none⟩) m m]) ∧ Own w' w.heap.size 3 (some ⟨g, 0, none⟩) m m (ints .i64 l) ∧ Below w.heap.size w w' := by
  obtain ⟨W, hW⟩ : ∃ W, ((w.alloc (.cells #[.int .i64 x, .int .i64 q, .slice B m d] 71)).alloc (.cells #[.int .i64 0, .int .i64 0, .slice none 0 0] 32)).alloc (.cells #[.int .i64 x, .int .i64 q, .slice none 0 0] 32) = W := ⟨_, rfl⟩
  have sW : W.heap.size = w.heap.size + 3 := by rw [← hW]; simp
  have BA : Below w.heap.size w W := by rw [← hW]; exact (((Below.refl _ _).alloc (Nat.le_refl _) _).alloc (by simp) _).alloc (by simp; omega) _
  have h0 : W.heap[w.heap.size]? = some (.cells #[.int .i64 x, .int .i64 q, .slice B m d] 71 (0, 0)) := by
    rw [← hW, heap_alloc_old _ _ (by simp; omega), heap_alloc_old _ _ (by simp)]; exact heap_alloc_new w _
  have h1 : W.heap[w.heap.size + 1]? = some (.cells #[.int .i64 0, .int .i64 0, .slice none 0 0] 32 (0, 0)) := by
    rw [← hW, heap_alloc_old _ _ (by simp)]
    have := heap_alloc_new (w.alloc (.cells #[.int .i64 x, .int .i64 q, .slice B m d] 71)) (.cells #[.int .i64 0, .int .i64 0, .slice none 0 0] 32)
    rw [World.size_alloc] at this; exact this
  have h2 : W.heap[w.heap.size + 2]? = some (.cells #[.int .i64 x, .int .i64 q, .slice none 0 0] 32 (0, 0)) := by
    rw [← hW]
    have := heap_alloc_new ((w.alloc (.cells #[.int .i64 x, .int .i64 q, .slice B m d] 71)).alloc (.cells #[.int .i64 0, .int .i64 0, .slice none 0 0] 32)) (.cells #[.int .i64 x, .int .i64 q, .slice none 0 0] 32)
    rw [World.size_alloc, World.size_alloc] at this; exact this
  obtain ⟨a0, a1, a2⟩ := cells3K h0
  obtain ⟨b0, b1, b2⟩ := cells3K h1
  obtain ⟨d0, d1, d2⟩ := cells3K h2
  go_enter Tryd.func34, Tryd.ntmps34
  go_wp2_with (fail)
  refine (toIntS_any (h.bel BA) hm).mono ?_
  rintro e w2 ⟨g, rfl, O2, B2⟩
  have k1 := heap_belP B2 h1
  have k2 := heap_belP B2 h2
  obtain ⟨e0, e1, e2⟩ := cells3K k1
  obtain ⟨f0, f1, f2⟩ := cells3K k2
  have fz1 : ∀ j, w2.frozen? ⟨w.heap.size + 1, j, none⟩ = false := fun j => frozen_of_row w2 _ j _ _ k1
  have fz2 : ∀ j, w2.frozen? ⟨w.heap.size + 2, j, none⟩ = false := fun j => frozen_of_row w2 _ j _ _ k2
  have hF := put3 (.int .i64 x) (.int .i64 q) (.slice (some ⟨g, 0, none⟩) m m) (w := w2.setCell ⟨w.heap.size + 2, 2, none⟩ (.slice (some ⟨g, 0, none⟩) m m)) (R := w.heap.size + 1) ((heap_setCell_other w2 ⟨w.heap.size + 2, 2, none⟩ (w.heap.size + 1) _ (by simp)).trans k1)
  have hg := O2.block
  have hO : Own ((((w2.setCell ⟨w.heap.size + 2, 2, none⟩ (.slice (some ⟨g, 0, none⟩) m m)).setCell ⟨w.heap.size + 1, 0, none⟩ (.int .i64 x)).setCell ⟨w.heap.size + 1, 1, none⟩ (.int .i64 q)).setCell ⟨w.heap.size + 1, 2, none⟩ (.slice (some ⟨g, 0, none⟩) m m)) w.heap.size 3 (some ⟨g, 0, none⟩) m m (ints .i64 l) :=
    (O2.mono (by omega)).heapEqP fun b hb => by
      have hgb : g = b := by simpa [Value.ownBlock] using hb
      have hg1 : W.heap.size ≤ g := hg.1
      rw [put3_far _ _ _ (by omega), heap_setCell_other _ ⟨w.heap.size + 2, 2, none⟩ b _ (by show b ≠ w.heap.size + 2; omega)]
  have hB : Below w.heap.size w ((((w2.setCell ⟨w.heap.size + 2, 2, none⟩ (.slice (some ⟨g, 0, none⟩) m m)).setCell ⟨w.heap.size + 1, 0, none⟩ (.int .i64 x)).setCell ⟨w.heap.size + 1, 1, none⟩ (.int .i64 q)).setCell ⟨w.heap.size + 1, 2, none⟩ (.slice (some ⟨g, 0, none⟩) m m)) :=
    ((((bel_trans BA B2).setCell (by simp) _).setCell (by simp) _).setCell (by simp) _).setCell (by simp) _
  clear a0 a1 a2 b0 b1 b2 d0 d1 d2 h0 h1 h2 k1 k2 O2 B2 BA h
  go_wp2
  refine bodyPost_ret (results_cell_row rfl _ _ _ _ _ _ _ rfl hF Tryd.underlying32 rfl (by kernel_rfl)) rfl ?_
  exact ⟨g, rfl, hO, hB⟩
section
variable {w wa w' : World} {lo n c : Nat} {A : Option Addr} {pvs : List PV} {ps : List Port}
def put3W (w : World) (g k : Nat) (x q : Int) (v : Value) : World := ((w.setCell ⟨g, k * 3, none⟩ (.int .i64 x)).setCell ⟨g, k * 3 + 1, none⟩ (.int .i64 q)).setCell ⟨g, k * 3 + 2, none⟩ v
theorem put3W_far {g k : Nat} {x q : Int} {v : Value} {b : Nat} (h : b ≠ g) : (put3W w g k x q v).heap[b]? = w.heap[b]? :=
  (heap_setCell_other _ ⟨g, k * 3 + 2, none⟩ b _ h).trans ((heap_setCell_other _ ⟨g, k * 3 + 1, none⟩ b _ h).trans (heap_setCell_other _ ⟨g, k * 3, none⟩ b _ h))
/-- One port put in its place: made behind the world wa, in which the list stood. -/
theorem OwnP.put {g k m d : Nat} {X : Option Addr} {p : Port} (h : OwnP wa lo (some ⟨g, 0, none⟩) n c pvs ps) (hb : Below wa.heap.size wa w) (hlo : lo ≤ wa.heap.size) (hx : Own w wa.heap.size 3 X m d (ints .i64 p.2.2)) (hk : k < n) :
    OwnP (put3W w g k p.1 p.2.1 (.slice X m d)) lo (some ⟨g, 0, none⟩) n c (pvs.set k (p.1, p.2.1, .slice X m d)) (ps.set k p) := by
  have hw := h.bel hb
  have hg : g < wa.heap.size := (h.row rfl).2
  have hXb : ∀ b, (Value.slice X m d).ownBlock = some b → wa.heap.size ≤ b ∧ b < w.heap.size := fun b hb => blk_lt hx hb
  obtain ⟨q1, r1⟩ := World.ownsRow.stored hw.1 (k * 3) (.int .i64 p.1)
  obtain ⟨q2, r2⟩ := World.ownsRow.stored q1 (k * 3 + 1) (.int .i64 p.2.1)
  obtain ⟨q3, r3⟩ := World.ownsRow.stored q2 (k * 3 + 2) (.slice X m d)
  refine hw.upd hk ?_ (fun i pv _ hi b hb' => put3W_far fun e => ?_) ⟨rfl, rfl, X, m, d, rfl, (hx.mono hlo).heapEqP fun b hb' => put3W_far fun e => ?_⟩ fun b hb' => ⟨fun e => ?_, fun i pv _ hi e => ?_⟩
  · rw [flatP_set]; exact q3
  · exact hw.2.2.2.1 i pv hi b hb' (by rw [e]; rfl)
  · have := (hXb b hb').1; omega
  · injection e with e; have e' : g = b := e; have := (hXb b hb').1; omega
  · have h1 := (h.inner hi e).2; have h2 := (hXb b hb').1; omega
theorem OwnP.cells {g k : Nat} (h : OwnP w lo (some ⟨g, 0, none⟩) n c pvs ps) (hk : k < n) :
    ∃ pv B m d l, pvs[k]? = some pv ∧ pv.2.2 = .slice B m d ∧ w.cell? ⟨g, k * 3, none⟩ = some (.int .i64 pv.1) ∧ w.cell? ⟨g, k * 3 + 1, none⟩ = some (.int .i64 pv.2.1) ∧ w.cell? ⟨g, k * 3 + 2, none⟩ = some (.slice B m d) ∧ (∀ j, w.frozen? ⟨g, j, none⟩ = false) ∧ Own w lo 3 B m d (ints .i64 l) ∧ ps[k]? = some (pv.1, pv.2.1, l) := by
  have hl := h.len
  have hx : pvs[k]? = some pvs[k] := List.getElem?_eq_getElem (by omega)
  have hp : ps[k]? = some ps[k] := List.getElem?_eq_getElem (by omega)
  obtain ⟨e0, e1, e2⟩ := flatP_at pvs k _ hx
  obtain ⟨k0, k1, B, m, d, k2, hO⟩ := h.2.2.1 k _ _ hx hp
  refine ⟨pvs[k], B, m, d, ps[k].2.2, hx, k2, (World.ownsRow.cellAt h.1 _ (by omega)).trans e0, (World.ownsRow.cellAt h.1 _ (by omega)).trans e1, ?_, World.ownsRow.frozenAt h.1, hO, ?_⟩
  · rw [← k2]; exact (World.ownsRow.cellAt h.1 _ (by omega)).trans e2
  · rw [hp, k0, k1]
end
set_option maxRecDepth 100000 in
set_option maxHeartbeats 4000000 in
theorem toVPortS_any {A : Option Addr} {n c : Nat} {ps : List Port} {w : World} (h : HasP w A n ps) (hn : n ≤ 16777216) (hl : LenP ps) :
    Calls Tryd.prog 14 #[.slice A n c] w fun e w' => ∃ pvs, e = .returned (.slice (some ⟨w.heap.size, 0, none⟩) n n) ∧ OwnP w' w.heap.size (some ⟨w.heap.size, 0, none⟩) n n pvs ps ∧ Below w.heap.size w w' := by
  obtain ⟨i0, hi, hz0, hz1, hz2⟩ := info_partsK Tryd.infoPort
  have HL := Lib.hid h.1
  go_enter Tryd.func14, Tryd.ntmps14
  go_wp2_with (refine wpList_make_full _ rfl _ _ 23 rfl w.heap.size 32 i0 (.agg #[.int .i64 0, .int .i64 0, .slice none 0 0]) 3 Tryd.underlying23 hi hz0 hz1 .i64 .i64 _ _ n rfl rfl rfl rfl (by rw [hz2]; omega) (by unfold maxLen; omega) (Nat.le_refl _) ?_; intro w1 hown hgrow)
  rw [flatP_zeros] at hown
  have O0 := ownP_made hown
  have B0 : Below w.heap.size w w1 := below_of_grown hgrow (Nat.le_refl _) (fun k hk => by cases hk)
  clear hown hgrow
  go_loopw [4] (fun t wr => ∃ (k : Nat) (pvs : List PV), k ≤ n ∧ t = .int .i64 (k : Int) ∧ OwnP wr w.heap.size (some ⟨w.heap.size, 0, none⟩) n n pvs (ps.take k ++ List.replicate (n - k) (0, 0, [])) ∧ Below w.heap.size w wr) (fun t _ => n - (intOf t).toNat)
  case atStart => exact ⟨0, _, Nat.zero_le _, rfl, by simpa using O0, B0⟩
  case round =>
    obtain ⟨k, pvs, hk, rfl, O1, BW⟩ := hrel
    have hge := BW.size
    by_cases hlt : k < n
    · have hltB : decide ((k : Int) < (n : Int)) = true := by simp; omega
      obtain ⟨b, o, B, m, d, x, q, l, rfl, hbl, hx, c0, c1, c2, hmd, hH⟩ := (h.bel BW).at_ hlt
      have hm := hl.at_ hx hH
      have HST := Lib.hid (set_take ps (0, 0, []) k n HL.out hlt (x, q, l) hx)
      clear hx
      go_wp2_with (fail)
      refine (toVPort_any (d := d) (x := x) (q := q) hH hm).mono ?_
      rintro e w3 ⟨g3, rfl, O3, B3⟩
      have hP := OwnP.put (p := (x, q, l)) O1 B3 hge O3 hlt
      rw [HST.out] at hP
      obtain ⟨pv, X', m', d', l', _, _, e0, e1, e2, fz, _, _⟩ := (O1.bel B3).cells hlt
      have B4 : Below w.heap.size w (put3W w3 w.heap.size k x q (.slice (some ⟨g3, 0, none⟩) m m)) := (((BW.trans (B3.mono hge)).setCell (Nat.le_refl _) _).setCell (Nat.le_refl _) _).setCell (Nat.le_refl _) _
      unfold put3W at hP B4
      have HP := Lib.hid hP
      have HB4 := Lib.hid B4
      clear O3 B3 hP B4 c0 c1 c2
      go_wp2
      go_roundw
      case rel => exact ⟨k + 1, _, by omega, by go_num, HP.out, HB4.out⟩
      case measure => simp [intOf]; omega
    · have hltB : decide ((k : Int) < (n : Int)) = false := by simp; omega
      obtain rfl : k = n := by omega
      rw [List.take_of_length_le (by rw [HL.out]; omega), Nat.sub_self, List.replicate_zero, List.append_nil] at O1
      go_wp2
      go_ret
      exact ⟨_, rfl, O1, BW⟩
set_option maxHeartbeats 2000000 in
theorem eqVPort_b {B B' : Option Addr} {m d m' d' : Nat} {x q : Int} {l : List Int} {w : World} (h : Has w B m (ints .i64 l)) (h' : Has w B' m' (ints .i64 l)) (hm : m ≤ 16777216) :
    Calls Tryd.prog 35 #[.agg #[.int .i64 x, .int .i64 q, .slice B m d], .agg #[.int .i64 x, .int .i64 q, .slice B' m' d']] w fun e w' => e = .returned (.bool true) ∧ Below w.heap.size w w' := by
  obtain ⟨W1, hW1⟩ : ∃ W1, w.alloc (.cells #[.int .i64 x, .int .i64 q, .slice B m d] 32) = W1 := ⟨_, rfl⟩
  have B1 : Below w.heap.size w W1 := by rw [← hW1]; exact below_allocP w _
  have h1 : W1.heap[w.heap.size]? = some (.cells #[.int .i64 x, .int .i64 q, .slice B m d] 32 (0, 0)) := by rw [← hW1]; exact heap_alloc_new w _
  obtain ⟨W2, hW2⟩ : ∃ W2, W1.alloc (.cells #[.int .i64 x, .int .i64 q, .slice B' m' d'] 32) = W2 := ⟨_, rfl⟩
  have B2 : Below W1.heap.size W1 W2 := by rw [← hW2]; exact below_allocP W1 _
  have h2 : W2.heap[W1.heap.size]? = some (.cells #[.int .i64 x, .int .i64 q, .slice B' m' d'] 32 (0, 0)) := by rw [← hW2]; exact heap_alloc_new W1 _
  obtain ⟨a0, a1, a2⟩ := cells3K (heap_belP B2 h1)
  obtain ⟨b0, b1, b2⟩ := cells3K h2
  have B12 := bel_trans B1 B2
  have C := Lib.hid (eqIntS_b (c := d) (c' := d') (h.bel B12) (h'.bel B12) hm)
  have xB : (x != x) = false := by simp
  have qB : (q != q) = false := by simp
  clear h1 h2
  go_enter Tryd.func35, Tryd.ntmps35
  go_wp2_with (fail)
  refine C.out.mono ?_
  rintro e w3 ⟨rfl, B3⟩
  go_wp2
  go_ret
  exact ⟨rfl, bel_trans B12 B3⟩
set_option maxHeartbeats 4000000 in
theorem eqVPortS_same {A A' : Option Addr} {n c n' c' : Nat} {ps : List Port} {w : World} (h : HasP w A n ps) (h' : HasP w A' n' ps) (hn : n ≤ 16777216) (hl : LenP ps) :
    Calls Tryd.prog 16 #[.slice A n c, .slice A' n' c'] w fun e w' => e = .returned (.bool true) ∧ Below w.heap.size w w' := by
  obtain rfl : n' = n := by have := h.1; have := h'.1; omega
  go_enter Tryd.func16, Tryd.ntmps16
  go_wp2
  go_loopw [5] (fun i wr => ∃ k : Nat, k ≤ n' ∧ i = .int .i64 k ∧ Below w.heap.size w wr) (fun i _ => n' - (intOf i).toNat)
  case atStart => exact ⟨0, Nat.zero_le _, rfl, Below.refl _ _⟩
  case round =>
    obtain ⟨k, hk, rfl, B⟩ := hrel
    have hge := B.size
    by_cases hlt : k < n'
    · have hltB : decide ((k : Int) < (n' : Int)) = true := by simp; omega
      obtain ⟨b, o, X, m, d, x, q, l, rfl, hbl, hx, d0, d1, d2, _, hH⟩ := (h.bel B).at_ hlt
      obtain ⟨b', o', X', m', d', x', q', l', rfl, hbl', hx', d0', d1', d2', _, hH'⟩ := (h'.bel B).at_ hlt
      have hm := hl.at_ hx hH
      have he : (x, q, l) = (x', q', l') := by rw [hx] at hx'; injection hx'
      injection he with e1 he
      injection he with e2 e3
      subst e1 e2 e3
      clear hx hx'
      have DB : Below wr.heap.size wr wr.drew := (Below.refl _ _).drew
      have HQ := Lib.hid (eqVPort_b (x := x) (q := q) (d := d) (d' := d') (hH.bel DB) (hH'.bel DB) hm)
      clear hH hH'
      go_wp2
      go_region_with (go_at_call 35; refine HQ.out.mono ?_; rintro e w5 ⟨rfl, B5⟩)
      all_goals
        have B6 := B.trans ((DB.trans B5).mono hge)
        go_wp2
        go_roundw
        case rel => exact ⟨k + 1, by omega, by go_num, B6⟩
        case measure => simp [intOf]; omega
    · have hltB : decide ((k : Int) < (n' : Int)) = false := by simp; omega
      obtain rfl : k = n' := by omega
      go_wp2
      go_ret
      exact ⟨rfl, B⟩
end Go.Proofs.YtiokieancjigeaaDoor
