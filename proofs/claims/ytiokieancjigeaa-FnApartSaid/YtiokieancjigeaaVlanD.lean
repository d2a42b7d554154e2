/-
  Frames that go out, as rows of two in memory, and FloodVlan of the model: what is proved here is what it returns, and that it writes nothing that was there. Condition: lengths up to 2^24.
-/
import Derived.Test.YtiokieancjigeaaVlanC
import Derived.Deep.RegionLaw
namespace Go.Proofs.Ytiokieancjigeaa
open Go.RowKit

theorem Try.infoOut : (Try.prog.info? 36).map (fun i => (i.zero, i.size, i.bytes)) = some (some (.agg #[.int .i64 0, .int .i64 0]), 2, 16) := by kernel_rfl
def flatO : List (Int × Int) → List Value
  | [] => []
  | h :: hs => .int .i64 h.1 :: .int .i64 h.2 :: flatO hs
theorem flatO_len (hs : List (Int × Int)) : (flatO hs).length = hs.length * 2 := by
  induction hs with
  | nil => rfl
  | cons d ds ih => simp only [flatO, List.length_cons, ih]; omega
theorem flatO_app (a b : List (Int × Int)) : flatO (a ++ b) = flatO a ++ flatO b := by
  induction a with
  | nil => rfl
  | cons d ds ih => simp [flatO, ih]
theorem flatO_at (hs : List (Int × Int)) (i : Nat) (h : Int × Int) (hi : hs[i]? = some h) : (flatO hs)[i * 2]? = some (.int .i64 h.1) ∧ (flatO hs)[i * 2 + 1]? = some (.int .i64 h.2) := by
  induction hs generalizing i with
  | nil => simp at hi
  | cons d ds ih =>
    cases i with
    | zero => simp at hi; subst hi; simp [flatO]
    | succ i =>
      have := ih i (by simpa using hi)
      have e : (i + 1) * 2 = i * 2 + 1 + 1 := by omega
      rw [e]
      simpa [flatO] using this
theorem flatO_set (hs : List (Int × Int)) (i : Nat) (h : Int × Int) : flatO (hs.set i h) = ((flatO hs).set (i * 2) (.int .i64 h.1)).set (i * 2 + 1) (.int .i64 h.2) := by
  induction hs generalizing i with
  | nil => rfl
  | cons e ds ih =>
    cases i with
    | zero => simp [flatO]
    | succ i =>
      have e1 : (i + 1) * 2 = i * 2 + 1 + 1 := by omega
      rw [e1]
      simp [flatO, ih]
/-- The slice at A with n frames reads as xs. -/
def HasO (w : World) (A : Option Addr) (n : Nat) (xs : List (Int × Int)) : Prop :=
  xs.length = n ∧ ∀ i, i < n → ∃ b o x, A = some ⟨b, o, none⟩ ∧ xs[i]? = some x ∧ w.cell? ⟨b, o + i * 2, none⟩ = some (.int .i64 x.1) ∧ w.cell? ⟨b, o + i * 2 + 1, none⟩ = some (.int .i64 x.2)
/-- A slice of frames that the call made. -/
def OwnO (w : World) (lo : Nat) (A : Option Addr) (n c : Nat) (xs : List (Int × Int)) : Prop := w.ownsRow lo 36 2 (.slice A n c) n (flatO xs)
section
variable {w w' : World} {lo n c : Nat} {A : Option Addr} {xs : List (Int × Int)}
theorem HasO.bel (h : HasO w A n xs) (hb : Below w.heap.size w w') : HasO w' A n xs :=
  ⟨h.1, fun i hi => by
    obtain ⟨b, o, x, hA, hx, c0, c1⟩ := h.2 i hi
    have hlt : b < w.heap.size := World.block_lt_of_cell? w ⟨b, o + i * 2, none⟩ c0
    exact ⟨b, o, x, hA, hx, (hb.cell (p := ⟨b, o + i * 2, none⟩) hlt).trans c0, (hb.cell (p := ⟨b, o + i * 2 + 1, none⟩) hlt).trans c1⟩⟩
theorem HasO.at_ (h : HasO w A n xs) {i : Nat} (hi : i < n) :
    ∃ b o x y, A = some ⟨b, o, none⟩ ∧ b < w.heap.size ∧ xs[i]? = some (x, y) ∧ w.cell? ⟨b, o + i * 2, none⟩ = some (.int .i64 x) ∧ w.cell? ⟨b, o + i * 2 + 1, none⟩ = some (.int .i64 y) := by
  obtain ⟨b, o, ⟨x, y⟩, hA, hx, c0, c1⟩ := h.2 i hi
  exact ⟨b, o, x, y, hA, World.block_lt_of_cell? w ⟨b, o + i * 2, none⟩ c0, hx, c0, c1⟩
theorem OwnO.len (h : OwnO w lo A n c xs) : xs.length = n := by have := h.1; rw [flatO_len] at this; omega
theorem OwnO.has (h : OwnO w lo A n c xs) : HasO w A n xs := by
  have hl := h.len
  refine ⟨hl, fun i hi => ?_⟩
  obtain ⟨g, cap, hv, _, _⟩ := World.ownsRow.form h (by omega)
  injection hv with hA _ hcap
  subst hA hcap
  have hx : xs[i]? = some xs[i] := List.getElem?_eq_getElem (by omega)
  obtain ⟨e0, e1⟩ := flatO_at xs i _ hx
  refine ⟨g, 0, xs[i], rfl, hx, ?_, ?_⟩
  · rw [Nat.zero_add]; exact (World.ownsRow.cellAt h _ (by omega)).trans e0
  · rw [Nat.zero_add]; exact (World.ownsRow.cellAt h _ (by omega)).trans e1
theorem OwnO.bel (h : OwnO w lo A n c xs) (hb : Below w.heap.size w w') : OwnO w' lo A n c xs :=
  World.ownsRow.kept h (grown_of_below hb) (by cases hA : (Value.slice A n c).ownBlock <;> simp)
theorem OwnO.mono {lo' : Nat} (h : OwnO w lo A n c xs) (hl : lo' ≤ lo) : OwnO w lo' A n c xs := by
  refine ⟨h.1, ?_⟩
  rcases h.2 with h' | ⟨g, cap, cur, hv, hb, r⟩
  · exact .inl h'
  · exact .inr ⟨g, cap, cur, hv, by omega, r⟩
theorem OwnO.blk (h : OwnO w lo A n c xs) {b : Nat} (hb : (Value.slice A n c).ownBlock = some b) : lo ≤ b ∧ b < w.heap.size := by
  rcases h.2 with ⟨hv, _⟩ | ⟨g, cap, cur, hv, hlo, hg, _⟩
  · rw [hv] at hb; cases hb
  · rw [hv] at hb
    have : g = b := by simpa [Value.ownBlock] using hb
    subst this
    exact ⟨hlo, (Array.getElem?_eq_some_iff.1 hg).1⟩
theorem OwnO.heapEq (h : OwnO w lo A n c xs) (he : ∀ b, (Value.slice A n c).ownBlock = some b → w'.heap[b]? = w.heap[b]?) : OwnO w' lo A n c xs := by
  refine ⟨h.1, ?_⟩
  rcases h.2 with h' | ⟨g, cap, cur, hv, hb, hg, r⟩
  · exact .inl h'
  · exact .inr ⟨g, cap, cur, hv, hb, (he g (by rw [hv]; rfl)).trans hg, r⟩
theorem OwnO.head (h : OwnO w lo A n c xs) (hn : 0 < n) : ∃ g, A = some ⟨g, 0, none⟩ ∧ lo ≤ g ∧ g < w.heap.size := by
  obtain ⟨g, cap, hv, h1, h2⟩ := World.ownsRow.form h hn
  injection hv with hA _ _
  exact ⟨g, hA, h1, h2⟩
theorem OwnO.cells {g i : Nat} {x y : Int} (h : OwnO w lo (some ⟨g, 0, none⟩) n c xs) (hi : xs[i]? = some (x, y)) :
    w.cell? ⟨g, i * 2, none⟩ = some (.int .i64 x) ∧ w.cell? ⟨g, i * 2 + 1, none⟩ = some (.int .i64 y) ∧ (∀ j, w.frozen? ⟨g, j, none⟩ = false) := by
  have hl := h.len
  have hil := (List.getElem?_eq_some_iff.1 hi).1
  obtain ⟨e0, e1⟩ := flatO_at xs i _ hi
  exact ⟨(World.ownsRow.cellAt h _ (by omega)).trans e0, (World.ownsRow.cellAt h _ (by omega)).trans e1, World.ownsRow.frozenAt h⟩
theorem OwnO.put {g : Nat} (h : OwnO w lo (some ⟨g, 0, none⟩) n c xs) (i : Nat) (x : Int × Int) :
    OwnO ((w.setCell ⟨g, i * 2, none⟩ (.int .i64 x.1)).setCell ⟨g, i * 2 + 1, none⟩ (.int .i64 x.2)) lo (some ⟨g, 0, none⟩) n c (xs.set i x) ∧
    w.grownBy ((w.setCell ⟨g, i * 2, none⟩ (.int .i64 x.1)).setCell ⟨g, i * 2 + 1, none⟩ (.int .i64 x.2)) (some g) := by
  obtain ⟨q1, r1⟩ := World.ownsRow.stored h (i * 2) (.int .i64 x.1)
  obtain ⟨q2, r2⟩ := World.ownsRow.stored q1 (i * 2 + 1) (.int .i64 x.2)
  refine ⟨?_, gr_trans r1 r2⟩
  unfold OwnO
  rw [flatO_set]
  exact q2
end
theorem ownO_lit (w : World) : OwnO (w.alloc (.cells #[] 36)) w.heap.size (some ⟨w.heap.size, 0, none⟩) 0 0 [] := World.ownsRow_lit w #[] 0 (Nat.le_refl _) (by unfold maxLen; omega) rfl
theorem ownO_more {w : World} {lo n c g : Nat} {xs : List (Int × Int)} {x y : Int} (h : w.ownsRow lo 36 2 (.slice (some ⟨g, 0, none⟩) (n + 1) c) (n + 1) (flatO xs ++ (#[Value.int .i64 x, Value.int .i64 y] : Array Value).toList)) : OwnO w lo (some ⟨g, 0, none⟩) (n + 1) c (xs ++ [(x, y)]) := by
  unfold OwnO; rw [flatO_app]; exact h

theorem floodI_no {ps : List Port} {a t : Int} (h : ¬ (psOk ps ∧ 0 ≤ a ∧ a < ps.length)) : floodI ps a t = [] := by unfold floodI; rw [if_neg h]
theorem floodI_yes {ps : List Port} {a : Nat} {p : Port} {t v : Int} (h : psOk ps) (ha : ps[a]? = some p) (hv : inI p t = v) : floodI ps (a : Int) t = notAt (a : Int) (outsTo ps v ps.length) := by
  have h1 := (List.getElem?_eq_some_iff.1 ha).1
  unfold floodI
  rw [if_pos ⟨h, by omega, by omega⟩]
  simp [dp_at ha, hv]
theorem notAt_take {a : Int} {l : List (Int × Int)} {k : Nat} {x : Int × Int} (hx : l[k]? = some x) : notAt a (l.take (k + 1)) = notAt a (l.take k) ++ (if x.1 ≠ a then [x] else []) := by
  unfold notAt
  rw [List.take_add_one, hx, List.filter_append]
  congr 1
  by_cases h : x.1 = a <;> simp [h]
theorem outs_at {ps : List Port} {v : Int} {n k : Nat} {x y : Int} (hx : (outsTo ps v n)[k]? = some (x, y)) : ∃ i : Nat, i < n ∧ x = (i : Int) ∧ y = outI (dp ps i) v := by
  obtain ⟨i, hi, he, _⟩ := outs_mem.1 (List.mem_of_getElem? hx)
  injection he with e1 e2
  exact ⟨i, hi, e1, e2⟩

theorem grown_of_alloc {w w' : World} {o : Obj} {row : Option Nat} (h : (w.alloc o).grownBy w' row) : w.grownBy w' row :=
  ⟨h.os, h.tape, h.output, Nat.le_trans (by simp) h.size, fun k hk hne => (h.block k (by simp; omega) hne).trans (heap_alloc_old w o hk)⟩
set_option maxRecDepth 100000 in
set_option maxHeartbeats 8000000 in
theorem specFloodVlan_r {A : Option Addr} {n c : Nat} {ps : List Port} {a t : Int} {w : World} {r : List (Int × Int)} (h : HasP w A n ps) (hn : n ≤ 16777216) (hl : LenP ps) (hr : floodI ps a t = r) :
    Calls Try.prog 23 #[.slice A n c, .int .i64 a, .int .i64 t] w fun e w' => ∃ A' n' c', e = .returned (.slice A' n' c') ∧ OwnO w' w.heap.size A' n' c' r ∧ Below w.heap.size w w' := by
  obtain ⟨i0, hi, hz0, hz1, hz2⟩ := info_partsK Try.infoOut
  have HL := Lib.hid h.1
  have HR := Lib.hid hr
  clear hr
  have O0 := ownO_lit w
  have B0 := below_allocP w (.cells #[] 36)
  by_cases hok : psOk ps
  rotate_left
  · have HE := Lib.hid (floodI_no (ps := ps) (a := a) (t := t) (fun hh => hok hh.1))
    have CV := Lib.hid (specVPortsValid_b (c := c) (h.bel B0) hn hl (decide_eq_false hok))
    clear hok
    go_enter Try.func23, Try.ntmps23
    go_wp2_with (fail)
    refine CV.out.mono ?_
    rintro e w1 ⟨rfl, B1⟩
    go_wp2
    go_ret
    exact ⟨_, _, _, rfl, by rw [← HR.out, HE.out]; exact O0.bel B1, bel_trans B0 B1⟩
  have hn6 : 1 ≤ n ∧ n ≤ 6 := by have h1 := hok.2; have h2 := HL.out; omega
  have HOK := Lib.hid hok
  have CV := Lib.hid (specVPortsValid_b (c := c) (h.bel B0) hn hl (decide_eq_true hok))
  clear hok
  by_cases ha : 0 ≤ a ∧ a ≤ (n : Int) - 1
  rotate_left
  · have HE := Lib.hid (floodI_no (ps := ps) (a := a) (t := t) (fun hh => ha (by have h1 := hh.2; have h2 := HL.out; omega)))
    have C1 := Lib.hid (fun W => l1In_no a 0 ((n : Int) - 1) W ha)
    clear ha
    go_enter Try.func23, Try.ntmps23
    go_wp2_with (fail)
    refine CV.out.mono ?_
    rintro e w1 ⟨rfl, B1⟩
    go_wp2_with (fail)
    refine (C1.out _).mono ?_
    rintro e w' ⟨rfl, rfl⟩
    go_wp2
    go_ret
    exact ⟨_, _, _, rfl, by rw [← HR.out, HE.out]; exact O0.bel B1, bel_trans B0 B1⟩
  have C1 := Lib.hid (fun W => l1In_yes a 0 ((n : Int) - 1) W ha.1 ha.2)
  obtain ⟨a', rfl⟩ := Int.eq_ofNat_of_zero_le ha.1
  have hla : a' < n := by omega
  have ja0 : (0 : Int) ≤ (a' : Int) := by omega
  have ja1 : (a' : Int) < (n : Int) := by omega
  clear ha
  go_enter Try.func23, Try.ntmps23
  go_wp2_with (fail)
  refine CV.out.mono ?_
  rintro e w1 ⟨rfl, B1⟩
  have B01 := bel_trans B0 B1
  have O01 := O0.bel B1
  go_wp2_with (fail)
  refine (C1.out _).mono ?_
  rintro e w' ⟨rfl, rfl⟩
  obtain ⟨bb, o, Ba, ma, da, xa, qa, la, hA0, _, hxa, d0, d1, d2, hmda, hHa⟩ := (h.bel B01).at_ hla
  have hma := hl.at_ hxa hHa
  obtain ⟨v, hv⟩ : ∃ v, inI (xa, qa, la) t = v := ⟨_, rfl⟩
  have HF := Lib.hid (floodI_yes HOK.out hxa hv)
  have CI := Lib.hid (specVlanIn_r (d := da) hHa hma hv)
  have HV := Lib.hid hv
  subst hA0
  clear hxa hv hHa
  go_wp2_with (fail)
  refine CI.out.mono ?_
  rintro e w2 ⟨rfl, B2⟩
  have B02 := bel_trans B01 B2
  have O02 := O01.bel B2
  have s2 := B02.size
  by_cases hv0 : v < 0
  · have vB : decide (v < 0) = true := by simp; omega
    have HE : Hid (floodI ps (a' : Int) t = []) := by
      have h1 := HF.out
      have h2 := HV.out
      rw [← h2] at hv0
      rw [h2.symm, inI_neg _ _ hv0, outs_barred] at h1
      exact h1
    clear hv0
    go_wp2
    go_ret
    exact ⟨_, _, _, rfl, by rw [← HR.out, HE.out]; exact O02, B02⟩
  have vB : decide (v < 0) = false := by simp; omega
  have CP := Lib.hid (specPortsOn_r (c := c) (h.bel B02) hn hl (onI_yes (v := v) HOK.out))
  clear hv0
  go_wp2_with (fail)
  refine CP.out.mono ?_
  rintro e w3 ⟨A3, n3, c3, rfl, O3, B3⟩
  have B03 := bel_trans B02 B3
  have O03 := O02.bel B3
  have HN3 := Lib.hid (show (outsTo ps v ps.length).length = n3 by have := O3.has.len; rw [List.length_map] at this; exact this)
  have hn3 : n3 ≤ 6 := by have h1 := HN3.out; have h2 := outs_len ps v ps.length; have h3 := HL.out; omega
  go_wp2
  go_loopw [7, 10] (fun o' i wr => ∃ (k q : Nat) (A' : Option Addr) (c' : Nat), k ≤ n3 ∧ i = .int .i64 (k : Int) ∧ o' = .slice A' q c' ∧ q ≤ k ∧ OwnO wr w.heap.size A' q c' (notAt (a' : Int) ((outsTo ps v ps.length).take k)) ∧ Below w.heap.size w wr ∧ Has wr A3 n3 (ints .i64 ((outsTo ps v ps.length).map (·.1)))  ∧ (∀ ad, A3 = some ad → w2.heap.size ≤ ad.block ∧ ad.block < w3.heap.size) ∧ (∀ b, (Value.slice A' q c').ownBlock = some b → b < w2.heap.size ∨ w3.heap.size ≤ b) ∧ w3.heap.size ≤ wr.heap.size) (fun _ i _ => n3 - (intOf i).toNat)
  case atStart => exact ⟨0, 0, _, _, Nat.zero_le _, rfl, rfl, Nat.le_refl _, by simpa [notAt] using O03, B03, O3.has, fun ad hd => by subst hd; exact O3.block, fun b hb => .inl (by have := (O02.blk hb).2; omega), Nat.le_refl _⟩
  case round =>
    obtain ⟨k, j, A1, c1, hk, rfl, rfl, hj, O1, BW, H3, HA3, HA1, sz⟩ := hrel
    have hge := BW.size
    by_cases hlt : k < n3
    · have hltB : decide ((k : Int) < (n3 : Int)) = true := by simp; omega
      obtain ⟨b3, o3, z, rfl, hb3, hz, hc3⟩ := H3.at_ hlt
      obtain ⟨⟨x, y⟩, hxy⟩ : ∃ x, (outsTo ps v ps.length)[k]? = some x := ⟨_, List.getElem?_eq_getElem (by have := HN3.out; omega)⟩
      obtain rfl : x = z := by simpa [hxy] using hz
      have HT := Lib.hid (notAt_take (a := (a' : Int)) hxy)
      obtain ⟨i, hi', rfl, hy⟩ := outs_at hxy
      have hin : i < n := by have := HL.out; omega
      have k0 : (0 : Int) ≤ (k : Int) := by omega
      have k1 : (k : Int) < (n3 : Int) := by omega
      have q0 : (0 : Int) ≤ (i : Int) := by omega
      have q1 : (i : Int) < (n : Int) := by omega
      clear hz
      by_cases hia : i = a'
      · have eB : ((i : Int) != (a' : Int)) = false := by simp [hia]
        have HS : Hid (notAt (a' : Int) ((outsTo ps v ps.length).take (k + 1)) = notAt (a' : Int) ((outsTo ps v ps.length).take k)) := by
          have h1 := HT.out
          rw [if_neg (by simp [hia]), List.append_nil] at h1
          exact h1
        clear hia hy hxy
        go_wp2
        go_roundw
        case rel => exact ⟨k + 1, j, _, _, by omega, by go_num, rfl, by omega, by rw [HS.out]; exact O1, BW, H3, HA3, HA1, sz⟩
        case measure => simp [intOf]; omega
      · have eB : ((i : Int) != (a' : Int)) = true := by simp; omega
        have HS : Hid (notAt (a' : Int) ((outsTo ps v ps.length).take (k + 1)) = notAt (a' : Int) ((outsTo ps v ps.length).take k) ++ [((i : Int), y)]) := by
          have h1 := HT.out
          rw [if_pos (by simp; omega)] at h1
          exact h1
        obtain ⟨_, _, B, m, d, x, q, l, hA, _, hx, e0, e1, e2, hmd, hH⟩ := (h.bel BW).at_ hin
        injection hA with hA
        injection hA with f1 f2
        subst f1 f2
        have hm := hl.at_ hx hH
        have BD : Below wr.heap.size wr wr.drew := (Below.refl _ _).drew
        have C := Lib.hid (specTagOut_r (d := d) (hH.bel BD) hm (show outI (x, q, l) v = y by rw [hy, dp_at hx]))
        clear hia hy hxy hx
        go_wp2
        go_region_law (first | ((with_reducible refine step_append_lies _ rfl (.tmp 48) (.tmp 63) 33 rfl w.heap.size 36 i0 (.agg #[.int .i64 0, .int .i64 0]) 2 16 Try.underlying33 hi hz0 hz1 hz2 ?c1 ?c2 (.slice A1 j c1) j (flatO (notAt (a' : Int) ((outsTo ps v ps.length).take k))) rfl O6 ⟨w5.heap.size, 0, none⟩ 1 1 (#[Value.int .i64 (i : Int), Value.int .i64 y] : Array Value).toList rfl ?c3 N6.out ?c4 ?c5 ?c6 ?c7 Z6 _ rfl ?_); (case c1 => rfl); (case c2 => decide); (case c3 => rfl); (case c4 => simp [Value.oneCell']); (case c5 => decide); (case c6 => unfold maxLen; omega); (case c7 => omega); intro g4 c4 w4 O4 G4 hat4 _) | (go_simp; go_at_call 17; (with_reducible refine C.out.mono ?_); rintro e w5 ⟨rfl, B5⟩; have B5' : Below wr.heap.size wr w5 := BD.trans B5; have s5 := B5'.size; have hc5 := (B5'.cell (p := ⟨b3, o3 + k, none⟩) hb3).trans hc3; have O6 : (w5.alloc (.cells #[Value.int .i64 (i : Int), Value.int .i64 y] 36)).ownsRow w.heap.size 36 2 (.slice A1 j c1) j (flatO (notAt (a' : Int) ((outsTo ps v ps.length).take k))) := World.ownsRow.alloc (O1.bel B5') _; have N6 := Lib.hid (World.news_of_block (w := w5.alloc (.cells #[Value.int .i64 (i : Int), Value.int .i64 y] 36)) (B := w5.heap.size) (cs := #[Value.int .i64 (i : Int), Value.int .i64 y]) (t := 36) (fr := (0, 0)) (heap_alloc_new w5 _)); have Z6 : w.heap.size ≤ (w5.alloc (.cells #[Value.int .i64 (i : Int), Value.int .i64 y] 36)).heap.size := by simp; omega))
        all_goals
          have G5 := grown_of_alloc G4
          have hat5 : (Value.slice A1 j c1).ownBlock = some g4 ∨ w5.heap.size ≤ g4 := by
            rcases hat4 with h4 | h4
            · exact .inl h4
            · right; rw [h4]; simp
          have P4 := ownO_more O4
          have B6 : Below w.heap.size w w4 := ((BW.trans (B5'.mono hge)).trans ((Below.refl _ _).alloc (by omega) _)).trans (below_of_grown G4 Z6 (fun g hg => (World.ownsRow.lt O6 g hg).1))
          have s4 := World.grownBy.size G5
          have H5 := (H3.bel B5').grown G5 (fun ad had e => by
            have h1 := HA1 _ e.symm
            have h2 := HA3 ad had
            omega)
          clear O4 G4 hat4 O6 N6 e0 e1 e2
          go_wp2
          go_roundw
          case rel => exact ⟨k + 1, j + 1, _, _, by omega, by go_num, rfl, by omega, by rw [HS.out]; exact P4, B6, H5, HA3, fun b hb => by
            have hb' : g4 = b := by simpa [Value.ownBlock] using hb
            rcases hat5 with h5 | h5
            · have := HA1 _ h5; omega
            · omega, by omega⟩
          case measure => simp [intOf]; omega
    · have hltB : decide ((k : Int) < (n3 : Int)) = false := by simp; omega
      obtain rfl : k = n3 := by omega
      go_wp2
      go_ret
      refine ⟨_, _, _, rfl, ?_, BW⟩
      rw [List.take_of_length_le (by rw [HN3.out]; exact Nat.le_refl _)] at O1
      rw [← HR.out, HF.out]
      exact O1
end Go.Proofs.Ytiokieancjigeaa
