/-
  Chapter 7's program, the ends of cables: what is proved here is what cableEnds returns, in memory of its own, and that it writes nothing that was there. Condition: cables as they may be.
-/
import Derived.Test.YtkmdpmhaljieaaaEnds
import Derived.Test.YtkmdpmhaljieaaaImp7b
import Derived.WalkSmall
import Derived.BigRegion
import Derived.BigQuiet
import Derived.Deep.RegionHeld3
namespace Go.Proofs.Ytkmdpmhaljieaaa
open Go.RowKit

theorem made_nils (m : Nat) : (madeCells (Value.cells (.slice none 0 0)) (m * 1)).toList = List.replicate m (.slice none 0 0) := by
  rw [Nat.mul_one]; exact toList_madeCells_one _ _
/-- Appending to one of the slices: what holds behind it. -/
theorem ends_append {D w6 : World} {lo g n a q d g6 c6 : Nat} {B : Option Addr} {vs : List Value} {es : List (List Cab)} {zs : List Cab} {x : Cab}
    (h : OwnVE D lo g n vs es) (hv : vs[a]? = some (.slice B q d)) (hz : es[a]? = some zs) (hlo : lo ≤ D.heap.size)
    (O6 : w6.ownsRow lo 100 3 (.slice (some ⟨g6, 0, none⟩) (q + 1) c6) (q + 1) (flatK (zs.map triOf) ++ (#[Value.int .i64 (x.1 : Int), Value.int .i64 (x.2.1 : Int), Value.int .i64 (x.2.2 : Int)] : Array Value).toList))
    (G6 : (D.alloc (.cells #[.int .i64 (x.1 : Int), .int .i64 (x.2.1 : Int), .int .i64 (x.2.2 : Int)] 100)).grownBy w6 (Value.slice B q d).ownBlock)
    (hat : (Value.slice B q d).ownBlock = some g6 ∨ g6 = (D.alloc (.cells #[.int .i64 (x.1 : Int), .int .i64 (x.2.1 : Int), .int .i64 (x.2.2 : Int)] 100)).heap.size) :
    OwnVE (w6.setCell ⟨g, a, none⟩ (.slice (some ⟨g6, 0, none⟩) (q + 1) c6)) lo g n (vs.set a (.slice (some ⟨g6, 0, none⟩) (q + 1) c6)) (es.set a (zs ++ [x])) ∧ w6.cell? ⟨g, a, none⟩ = some (.slice B q d) ∧ w6.frozen? ⟨g, a, none⟩ = false ∧ Below lo D w6 ∧ ∀ i, i < D.heap.size → (Value.slice B q d).ownBlock ≠ some i → w6.heap[i]? = D.heap[i]? := by
  have hBB : (Value.slice B q d).ownBlock = B.map (·.block) := by cases B <;> rfl
  have BX : Below D.heap.size D (D.alloc (.cells #[.int .i64 (x.1 : Int), .int .i64 (x.2.1 : Int), .int .i64 (x.2.2 : Int)] 100)) := (Below.refl _ _).alloc (Nat.le_refl _) _
  have hX := h.bel BX
  rw [hBB] at G6 hat
  obtain ⟨P, Q⟩ := hX.push hv hz (by unfold OwnK; rw [List.map_append, flatK_app]; exact O6) G6 (hat.imp id (fun e => by omega))
  have hal := (List.getElem?_eq_some_iff.1 hv).1
  have han : a < n := by have := h.1.has.1; omega
  obtain ⟨u, hu, hc, hf⟩ := Q.at_ han
  rw [hv] at hu
  injection hu with hu
  subst hu
  obtain ⟨_, _, _, hB, hOB⟩ := h.2.2.1 a _ zs hv hz
  injection hB with q1 q2 q3
  subst q1 q2 q3
  refine ⟨P, hc, hf, (BX.mono hlo).trans (below_of_grown G6 (by simp; omega) (fun k hk => (ownK_block hOB (by rw [hBB]; exact hk)).1)), fun i hi hne => ?_⟩
  exact (G6.block i (by simp; omega) (fun e => hne (by rw [hBB]; exact e.symm))).trans (Below.heap_alloc D _ i hi)

set_option maxRecDepth 100000 in
set_option maxHeartbeats 16000000 in
theorem cableEnds_any {A : Option Addr} {n c m : Nat} {cs : List Cab} {w : World} (h : HasK w A n (cs.map triOf)) (hc : cabsOk m cs) (hm : m ≤ 8) (hn : n ≤ 20) :
    Calls Try.prog 65 #[.int .i64 (m : Int), .slice A n c] w fun e w' => ∃ g, e = .returned (.slice (some ⟨g, 0, none⟩) m m) ∧ OwnE w' w.heap.size g m (endsN m cs) ∧ Below w.heap.size w w' := by
  obtain ⟨j0, hj, hy0, hy1, hy2⟩ := info_parts Try.infoSlE
  obtain ⟨i0, hi, hz0, hz1, hz2⟩ := info_partsK Try.infoEnd
  have HL := Lib.hid (show cs.length = n by have := h.1; rwa [List.length_map] at this)
  have HC := Lib.hid hc
  clear hc
  go_enter Try.func65, Try.ntmps65
  go_wp2_with (at_make; refine wpList_make_full _ rfl _ _ 64 rfl w.heap.size 98 j0 (.slice none 0 0) 1 Try.underlying64 hj hy0 hy1 .i64 .i64 _ _ m rfl rfl (by omega) (by omega) (by rw [hy2]; omega) (by unfold maxLen; omega) (Nat.le_refl _) ?_; intro w1 hown hgrow; rw [made_nils] at hown; have O1 : OwnVE w1 w.heap.size w.heap.size m _ _ := ownVE_made hown; have B1 : Below w.heap.size w w1 := below_of_grown hgrow (Nat.le_refl _) (fun k hk => by cases hk); clear hown hgrow)
  rw [← endsK_zero m cs] at O1
  go_loopw [12] (fun t wx => ∃ (k : Nat) (vs : List Value), k ≤ n ∧ t = .int .i64 (k : Int) ∧ OwnVE wx w.heap.size w.heap.size m vs (endsK m cs k) ∧ Below w.heap.size w wx) (fun t _ => n - (intOf t).toNat)
  case atStart => exact ⟨0, _, Nat.zero_le _, rfl, O1, B1⟩
  case round =>
    obtain ⟨k, vs, hk, rfl, O2, B2⟩ := hrel
    have s2 := B2.size
    by_cases hlt : k < n
    · have hltB : decide ((k : Int) < (n : Int)) = true := by simp; omega
      have hkl : k < cs.length := by rw [HL.out]; exact hlt
      obtain ⟨bb, o, rfl, hbl, e0, e1, e2⟩ := h.cab7 hlt
      have d0 := (B2.cell (p := ⟨bb, o + k * 3, none⟩) hbl).trans e0
      have d1 := (B2.cell (p := ⟨bb, o + k * 3 + 1, none⟩) hbl).trans e1
      have d2 := (B2.cell (p := ⟨bb, o + k * 3 + 2, none⟩) hbl).trans e2
      have hok := HC.out _ (cab_mem hkl)
      obtain ⟨a1, a2, a3, hcc⟩ : ∃ a b c, cab cs k = (a, b, c) := ⟨_, _, _, rfl⟩
      have HS := Lib.hid (endsK_succ HC.out hkl hcc)
      have HM := Lib.hid (endsK_mid HC.out hkl hcc)
      rw [hcc] at hok d0 d1 d2
      obtain ⟨ha1, ha2, _⟩ := hok
      simp only at ha1 ha2 d0 d1 d2
      have hz1' := endsK_at (cs := cs) (k := k) ha1
      have HNE := Lib.hid (show wr.heap.size ≠ (⟨w.heap.size, a1, none⟩ : Addr).block from fun e => Nat.lt_irrefl _ (show wr.heap.size < wr.heap.size from Nat.lt_of_le_of_lt (Nat.le_of_eq (show wr.heap.size = w.heap.size from e)) O2.1.block.2))
      have hHn := heap_alloc_new wr (.cells #[.int .i64 (a1 : Int), .int .i64 (a2 : Int), .int .i64 (a3 : Int)] 29)
      have hHz := heap_alloc_new wr (.cells #[.int .i64 0, .int .i64 0, .int .i64 0] 29)
      obtain ⟨y0, y1, y2⟩ := cells3K hHz
      have BA : Below wr.heap.size wr (wr.alloc (.cells #[.int .i64 (a1 : Int), .int .i64 (a2 : Int), .int .i64 (a3 : Int)] 29)) := (Below.refl _ _).alloc (Nat.le_refl _) _
      generalize hWA : wr.alloc (.cells #[.int .i64 (a1 : Int), .int .i64 (a2 : Int), .int .i64 (a3 : Int)] 29) = WA at hHn BA
      obtain ⟨D, hD⟩ : ∃ D, WA.drew = D := ⟨_, rfl⟩
      have BD : Below wr.heap.size wr D := hD ▸ BA.trans (below_drewN _ 1)
      have hHD : D.heap[wr.heap.size]? = some (.cells #[.int .i64 (a1 : Int), .int .i64 (a2 : Int), .int .i64 (a3 : Int)] 29 (0, 0)) := hD ▸ hHn
      have O3 := O2.bel BD
      have sD0 := BD.size
      have hlvA : (vs).length = m := O3.1.has.1
      obtain ⟨vA, hvA⟩ : ∃ v, (vs)[a1]? = some v := ⟨_, List.getElem?_eq_getElem (by omega)⟩
      obtain ⟨XA, qA, cA, rfl, hXA⟩ := O3.2.2.1 a1 vA _ hvA hz1'
      have hqA : qA ≤ 20 := by have h1 := hXA.has.1; have h2 := endsTo_len cs a1 k; rw [List.length_map] at h1; omega
      have sDA : wr.heap.size < D.heap.size := (Array.getElem?_eq_some_iff.1 hHD).1
      obtain ⟨uA, huA, hdA, hfA⟩ := O3.1.at_ (k := a1) ha1
      rw [hvA] at huA
      obtain rfl : Value.slice XA qA cA = uA := by injection huA
      obtain ⟨x0A, x1A, x2A⟩ := cells3K hHD
      have hXTA : ∀ b, (Value.slice XA qA cA).ownBlock = some b → b ≠ wr.heap.size := fun b hb e => by
        obtain ⟨cc1, ff1, ee1⟩ := ownK_type hXA hb
        rw [e, hHD] at ee1
        injection ee1 with ee1
        injection ee1 with _ ee1
        exact absurd ee1 (by decide)
      have O5A : (D.alloc (.cells #[.int .i64 (a2 : Int), .int .i64 (k : Int), .int .i64 (a3 : Int)] 100)).ownsRow w.heap.size 100 3 (.slice XA qA cA) qA (flatK ((endsTo cs a1 k).map triOf)) := World.ownsRow.alloc hXA _
      have N5A := Lib.hid (World.news_of_block (w := D.alloc (.cells #[.int .i64 (a2 : Int), .int .i64 (k : Int), .int .i64 (a3 : Int)] 100)) (B := D.heap.size) (cs := #[.int .i64 (a2 : Int), .int .i64 (k : Int), .int .i64 (a3 : Int)]) (t := 100) (fr := (0, 0)) (heap_alloc_new D _))
      have hloA : w.heap.size ≤ D.heap.size := by omega
      have Z5A : w.heap.size ≤ (D.alloc (.cells #[.int .i64 (a2 : Int), .int .i64 (k : Int), .int .i64 (a3 : Int)] 100)).heap.size := Nat.le_trans hloA ((Below.refl D.heap.size D).alloc (Nat.le_refl _) _).size
      have HEAA := Lib.hid (fun (w6 : World) (g6 c6 : Nat) O6 G6 hat => ends_append (w6 := w6) (g6 := g6) (c6 := c6) (x := (a2, k, a3)) O3 hvA hz1' hloA O6 G6 hat)
      obtain ⟨DXA, hDXA⟩ : ∃ W, D.alloc (.cells #[.int .i64 (a2 : Int), .int .i64 (k : Int), .int .i64 (a3 : Int)] 100) = W := ⟨_, rfl⟩
      have BXA : Below D.heap.size D DXA := hDXA ▸ (Below.refl _ _).alloc (Nat.le_refl _) _
      rw [hDXA] at O5A N5A Z5A HEAA
      obtain ⟨xx0A, xx1A, xx2A⟩ := cells3K ((BXA.block wr.heap.size sDA).trans hHD)
      have hdXA := (BXA.cell (p := ⟨w.heap.size, a1, none⟩) O3.1.block.2).trans hdA
      have HC6A := Lib.hid (show qA + 1 ≤ maxLen by unfold maxLen; omega)
      have HC7A := Lib.hid (show (qA + 1) * 24 ≤ 140737488355328 by omega)
      clear huA hXA
      clear hHz hHn O1 B1
      go_wp2
      refine wp_region_held_drew (S := (fun w' => w'.cell? ⟨wr.heap.size, 0, none⟩ = some (.int .i64 (a1 : Int)) ∧ w'.cell? ⟨wr.heap.size, 1, none⟩ = some (.int .i64 (a2 : Int)) ∧ w'.cell? ⟨wr.heap.size, 2, none⟩ = some (.int .i64 (a3 : Int)))) (by kernel_rfl) ?_ (fun hHeld => ?_)
      · first | exact ⟨x0A, x1A, x2A⟩ | (simp only [hD]; exact ⟨x0A, x1A, x2A⟩)
      rw [hD]
      have hHeldA := And.intro x0A (And.intro x1A x2A)
      refine wpAnyH_take (i := 0) (v := ?_) rfl (by kernel_rfl) (by kernel_rfl) (by kernel_rfl) (fun _ _ _ h => h) (Or.inl ⟨by rfl, ?_⟩) (by assumption) ?_
      rotate_left
      (intro wS hSw; (try dsimp only at hSw); go_simp; try with_reducible rfl)
      (try simp only [Act.put, List.setIfInBounds_toArray])
      refine wpAnyH_take (i := 1) (v := ?_) rfl (by kernel_rfl) (by kernel_rfl) (by kernel_rfl) (fun _ _ _ h => h) (Or.inl ⟨by rfl, ?_⟩) (by assumption) ?_
      rotate_left
      (intro wS hSw; (try dsimp only at hSw); go_simp; try with_reducible rfl)
      (try simp only [Act.put])
      refine wpAnyH_take (i := 2) (v := ?_) rfl (by kernel_rfl) (by kernel_rfl) (by kernel_rfl) (fun _ _ _ h => h) (Or.inl ⟨by rfl, ?_⟩) (by assumption) ?_
      rotate_left
      (intro wS hSw; (try dsimp only at hSw); go_simp; try with_reducible rfl)
      (try simp only [Act.put])
      refine wpAnyH_take (i := 3) (v := ?_) rfl (by kernel_rfl) (by kernel_rfl) (by kernel_rfl) (fun _ _ _ h => h) (Or.inl ⟨by rfl, ?_⟩) (by assumption) ?_
      rotate_left
      (intro wS hSw; (try dsimp only at hSw); go_simp; try with_reducible rfl)
      (try simp only [Act.put])
      refine wpAnyH_take (i := 4) (v := ?_) rfl (by kernel_rfl) (by kernel_rfl) (by kernel_rfl) (fun _ _ _ h => h) (Or.inl ⟨by rfl, ?_⟩) (by assumption) ?_
      rotate_left
      (intro wS hSw; (try dsimp only at hSw); go_simp; try with_reducible rfl)
      (try simp only [Act.put])
      refine wpAnyH_take (i := 5) (v := ?_) rfl (by kernel_rfl) (by kernel_rfl) (by kernel_rfl) (fun _ _ _ h => h) (Or.inl ⟨by rfl, ?_⟩) (by assumption) ?_
      rotate_left
      (intro wS hSw; (try dsimp only at hSw); go_simp; try with_reducible rfl)
      (try simp only [Act.put])
      refine wpAnyH_take (i := 6) (v := ?_) rfl (by kernel_rfl) (by kernel_rfl) (by kernel_rfl) (fun _ _ _ h => h) (Or.inl ⟨by rfl, ?_⟩) (by assumption) ?_
      rotate_left
      (intro wS hSw; (try dsimp only at hSw); go_simp; try with_reducible rfl)
      (try simp only [Act.put])
      refine wpAnyH_take (i := 8) (v := ?_) rfl (by kernel_rfl) (by kernel_rfl) (by kernel_rfl) (fun _ _ _ h => h) (Or.inl ⟨by rfl, ?_⟩) (by assumption) ?_
      rotate_left
      (intro wS hSw; (try dsimp only at hSw); go_simp; try with_reducible rfl)
      (try simp only [Act.put])
      refine wpAnyH_take (i := 9) (v := ?_) rfl (by kernel_rfl) (by kernel_rfl) (by kernel_rfl) (fun _ _ _ h => h) (Or.inl ⟨by rfl, ?_⟩) (by assumption) ?_
      rotate_left
      (intro wS hSw; (try dsimp only at hSw); go_simp; try with_reducible rfl)
      (try simp only [Act.put])
      refine wpAnyH_take (i := 10) (v := ?_) rfl (by kernel_rfl) (by kernel_rfl) (by kernel_rfl) (fun _ _ _ h => h) (Or.inl ⟨by rfl, ?_⟩) (by assumption) ?_
      rotate_left
      (intro wS hSw; (try dsimp only at hSw); go_simp; try with_reducible rfl)
      (try simp only [Act.put])
      refine wpAnyH_take (i := 11) (v := ?_) rfl (by kernel_rfl) (by kernel_rfl) (by kernel_rfl) (fun _ _ _ h => h) (Or.inl ⟨by rfl, ?_⟩) (by assumption) ?_
      rotate_left
      (intro wS hSw; (try dsimp only at hSw); go_simp; try with_reducible rfl)
      (try simp only [Act.put])
      refine wpAnyH_take (i := 12) (v := ?_) rfl (by kernel_rfl) (by kernel_rfl) (by kernel_rfl) (fun _ _ _ h => h) (Or.inl ⟨by rfl, ?_⟩) (by assumption) ?_
      rotate_left
      (intro wS hSw; (try dsimp only at hSw); go_simp; try with_reducible rfl)
      (try simp only [Act.put])
      refine wpAnyH_take (i := 13) (v := ?_) rfl (by kernel_rfl) (by kernel_rfl) (by kernel_rfl) (fun _ _ _ h => h) (Or.inl ⟨by rfl, ?_⟩) (by assumption) ?_
      rotate_left
      (intro wS hSw; (try dsimp only at hSw); go_simp; try with_reducible rfl)
      (try simp only [Act.put])
      refine wpAnyH_ready (rs := [7, 14]) (by kernel_rfl) (by simp) ?_
      refine AllReadyH.cons rfl (fun K hK => ?_) (AllReadyH.cons rfl (fun K hK => ?_) AllReadyH.nil)
      go_simp
      refine hK.out _ _ ?_ (fun hHeld => ?_)
      · exact ⟨x0A, x1A, x2A⟩
      clear hK K
      (try simp only [Act.put, List.setIfInBounds_toArray, List.set_cons_zero, List.set_cons_succ])
      refine wpAnyH_ready (rs := [14]) (by kernel_rfl) (by simp) ?_
      refine AllReadyH.cons rfl (fun K hK => ?_) AllReadyH.nil
      go_simp
      refine hK.out _ _ ?_ (fun hHeld => ?_)
      · exact ⟨xx0A, xx1A, xx2A⟩
      clear hK K
      (try simp only [Act.put, List.setIfInBounds_toArray, List.set_cons_zero, List.set_cons_succ])
      refine wpAnyH_ready (rs := [15]) (by kernel_rfl) (by simp) ?_
      refine AllReadyH.cons rfl (fun K hK => ?_) AllReadyH.nil
      (with_reducible refine step_append_lies _ rfl (.tmp 24) (.tmp 31) 98 rfl w.heap.size 100 i0 (.agg #[.int .i64 0, .int .i64 0, .int .i64 0]) 3 24 Try.underlying98 hi hz0 hz1 hz2 ?c1 ?c2 (.slice XA qA cA) qA (flatK ((endsTo cs a1 k).map triOf)) rfl O5A ⟨D.heap.size, 0, none⟩ 1 1 (#[Value.int .i64 (a2 : Int), Value.int .i64 (k : Int), Value.int .i64 (a3 : Int)] : Array Value).toList rfl ?c3 N5A.out ?c4 ?c5 ?c6 ?c7 Z5A _ rfl ?_); (case c1 => rfl); (case c2 => decide); (case c3 => rfl); (case c4 => simp [Value.oneCell']); (case c5 => decide); (case c6 => exact HC6A.out); (case c7 => exact HC7A.out); intro g6A c6A w6A O6A G6A hat6A _; obtain ⟨P6A, r0A, r1A, B6A, K6A⟩ := HEAA.out w6A g6A c6A O6A G6A hat6A; have hH6A := (K6A wr.heap.size sDA (fun e => hXTA _ e rfl)).trans hHD; obtain ⟨z0A, z1A, z2A⟩ := cells3K hH6A; have hH7A := (Below.heap_setCell w6A ⟨w.heap.size, a1, none⟩ (.slice (some ⟨g6A, 0, none⟩) (qA + 1) c6A) wr.heap.size HNE.out).trans hH6A; obtain ⟨v0A, v1A, v2A⟩ := cells3K hH7A; have BQA : Below w.heap.size D (w6A.setCell ⟨w.heap.size, a1, none⟩ (.slice (some ⟨g6A, 0, none⟩) (qA + 1) c6A)) := B6A.setCell (p := ⟨w.heap.size, a1, none⟩) (Nat.le_refl _) _
      refine hK.out _ _ ?_ (fun hHeld => ?_)
      · exact ⟨z0A, z1A, z2A⟩
      clear hK K
      (try simp only [Act.put, List.setIfInBounds_toArray])
      refine wpAnyH_take (i := 16) (v := ?_) rfl (by kernel_rfl) (by kernel_rfl) (by kernel_rfl) (fun _ _ _ h => h) (Or.inl ⟨by rfl, ?_⟩) (by assumption) ?_
      rotate_left
      (intro wS hSw; (try dsimp only at hSw); go_simp; try with_reducible rfl)
      (try simp only [Act.put])
      refine wpAnyH_ready (rs := [17]) (by kernel_rfl) (by simp) ?_
      refine AllReadyH.cons rfl (fun K hK => ?_) AllReadyH.nil
      go_simp
      refine hK.out _ _ ?_ (fun hHeld => ?_)
      · exact ⟨v0A, v1A, v2A⟩
      clear hK K
      (try simp only [Act.put, List.setIfInBounds_toArray, List.set_cons_zero, List.set_cons_succ])
      refine wpAnyH_done (by kernel_rfl) ?_ _
      rotate_left
      go_simp
      refine hK.out _ _ ?_ (fun hHeld => ?_)
      · exact ⟨xx0A, xx1A, xx2A⟩
      clear hK K
      (try simp only [Act.put, List.setIfInBounds_toArray, List.set_cons_zero, List.set_cons_succ])
      refine wpAnyH_ready (rs := [7]) (by kernel_rfl) (by simp) ?_
      refine AllReadyH.cons rfl (fun K hK => ?_) AllReadyH.nil
      go_simp
      refine hK.out _ _ ?_ (fun hHeld => ?_)
      · exact ⟨xx0A, xx1A, xx2A⟩
      clear hK K
      (try simp only [Act.put, List.setIfInBounds_toArray, List.set_cons_zero, List.set_cons_succ])
      refine wpAnyH_ready (rs := [15]) (by kernel_rfl) (by simp) ?_
      refine AllReadyH.cons rfl (fun K hK => ?_) AllReadyH.nil
      (with_reducible refine step_append_lies _ rfl (.tmp 24) (.tmp 31) 98 rfl w.heap.size 100 i0 (.agg #[.int .i64 0, .int .i64 0, .int .i64 0]) 3 24 Try.underlying98 hi hz0 hz1 hz2 ?c1 ?c2 (.slice XA qA cA) qA (flatK ((endsTo cs a1 k).map triOf)) rfl O5A ⟨D.heap.size, 0, none⟩ 1 1 (#[Value.int .i64 (a2 : Int), Value.int .i64 (k : Int), Value.int .i64 (a3 : Int)] : Array Value).toList rfl ?c3 N5A.out ?c4 ?c5 ?c6 ?c7 Z5A _ rfl ?_); (case c1 => rfl); (case c2 => decide); (case c3 => rfl); (case c4 => simp [Value.oneCell']); (case c5 => decide); (case c6 => exact HC6A.out); (case c7 => exact HC7A.out); intro g6A c6A w6A O6A G6A hat6A _; obtain ⟨P6A, r0A, r1A, B6A, K6A⟩ := HEAA.out w6A g6A c6A O6A G6A hat6A; have hH6A := (K6A wr.heap.size sDA (fun e => hXTA _ e rfl)).trans hHD; obtain ⟨z0A, z1A, z2A⟩ := cells3K hH6A; have hH7A := (Below.heap_setCell w6A ⟨w.heap.size, a1, none⟩ (.slice (some ⟨g6A, 0, none⟩) (qA + 1) c6A) wr.heap.size HNE.out).trans hH6A; obtain ⟨v0A, v1A, v2A⟩ := cells3K hH7A; have BQA : Below w.heap.size D (w6A.setCell ⟨w.heap.size, a1, none⟩ (.slice (some ⟨g6A, 0, none⟩) (qA + 1) c6A)) := B6A.setCell (p := ⟨w.heap.size, a1, none⟩) (Nat.le_refl _) _
      refine hK.out _ _ ?_ (fun hHeld => ?_)
      · exact ⟨z0A, z1A, z2A⟩
      clear hK K
      (try simp only [Act.put, List.setIfInBounds_toArray])
      refine wpAnyH_take (i := 16) (v := ?_) rfl (by kernel_rfl) (by kernel_rfl) (by kernel_rfl) (fun _ _ _ h => h) (Or.inl ⟨by rfl, ?_⟩) (by assumption) ?_
      rotate_left
      (intro wS hSw; (try dsimp only at hSw); go_simp; try with_reducible rfl)
      (try simp only [Act.put])
      refine wpAnyH_ready (rs := [17]) (by kernel_rfl) (by simp) ?_
      refine AllReadyH.cons rfl (fun K hK => ?_) AllReadyH.nil
      go_simp
      refine hK.out _ _ ?_ (fun hHeld => ?_)
      · exact ⟨v0A, v1A, v2A⟩
      clear hK K
      (try simp only [Act.put, List.setIfInBounds_toArray, List.set_cons_zero, List.set_cons_succ])
      refine wpAnyH_done (by kernel_rfl) ?_ _
      all_goals
        obtain ⟨E, hE⟩ : ∃ E, (w6A.setCell ⟨w.heap.size, a1, none⟩ (.slice (some ⟨g6A, 0, none⟩) (qA + 1) c6A)).drew = E := ⟨_, rfl⟩
        have hHE : E.heap[wr.heap.size]? = some (.cells #[.int .i64 (a1 : Int), .int .i64 (a2 : Int), .int .i64 (a3 : Int)] 29 (0, 0)) := hE ▸ hH7A
        have O7 : OwnVE E w.heap.size w.heap.size m (vs.set a1 (.slice (some ⟨g6A, 0, none⟩) (qA + 1) c6A)) ((endsK m cs k).set a1 (endsTo cs a1 k ++ [(a2, k, a3)])) := hE ▸ P6A.bel (below_drewN _ 1)
        have BE : Below w.heap.size w E := hE ▸ ((B2.trans (BD.mono s2)).trans BQA).trans (below_drewN _ 1)
        have sE0 := BE.size
        clear hWA hD BA BD O3 O5A N5A HEAA
        clear BXA hDXA hdXA hdA hfA x0A x1A x2A xx0A xx1A xx2A O6A G6A hat6A K6A B6A z0A z1A z2A v0A v1A v2A r0A r1A hHD sDA
        have hz2' := HM.out
        have hlvB : (vs.set a1 (.slice (some ⟨g6A, 0, none⟩) (qA + 1) c6A)).length = m := O7.1.has.1
        obtain ⟨vB, hvB⟩ : ∃ v, (vs.set a1 (.slice (some ⟨g6A, 0, none⟩) (qA + 1) c6A))[a2]? = some v := ⟨_, List.getElem?_eq_getElem (by omega)⟩
        obtain ⟨XB, qB, cB, rfl, hXB⟩ := O7.2.2.1 a2 vB _ hvB hz2'
        have hqB : qB ≤ 20 := by have h1 := hXB.has.1; have h2 := endsTo_len cs a2 k; rw [List.length_map] at h1; omega
        have sDB : wr.heap.size < E.heap.size := (Array.getElem?_eq_some_iff.1 hHE).1
        obtain ⟨uB, huB, hdB, hfB⟩ := O7.1.at_ (k := a2) ha2
        rw [hvB] at huB
        obtain rfl : Value.slice XB qB cB = uB := by injection huB
        obtain ⟨x0B, x1B, x2B⟩ := cells3K hHE
        have hXTB : ∀ b, (Value.slice XB qB cB).ownBlock = some b → b ≠ wr.heap.size := fun b hb e => by
          obtain ⟨cc1, ff1, ee1⟩ := ownK_type hXB hb
          rw [e, hHE] at ee1
          injection ee1 with ee1
          injection ee1 with _ ee1
          exact absurd ee1 (by decide)
        have O5B : (E.alloc (.cells #[.int .i64 (a1 : Int), .int .i64 (k : Int), .int .i64 (a3 : Int)] 100)).ownsRow w.heap.size 100 3 (.slice XB qB cB) qB (flatK ((endsTo cs a2 k).map triOf)) := World.ownsRow.alloc hXB _
        have N5B := Lib.hid (World.news_of_block (w := E.alloc (.cells #[.int .i64 (a1 : Int), .int .i64 (k : Int), .int .i64 (a3 : Int)] 100)) (B := E.heap.size) (cs := #[.int .i64 (a1 : Int), .int .i64 (k : Int), .int .i64 (a3 : Int)]) (t := 100) (fr := (0, 0)) (heap_alloc_new E _))
        have hloB : w.heap.size ≤ E.heap.size := by omega
        have Z5B : w.heap.size ≤ (E.alloc (.cells #[.int .i64 (a1 : Int), .int .i64 (k : Int), .int .i64 (a3 : Int)] 100)).heap.size := Nat.le_trans hloB ((Below.refl E.heap.size E).alloc (Nat.le_refl _) _).size
        have HEAB := Lib.hid (fun (w6 : World) (g6 c6 : Nat) O6 G6 hat => ends_append (w6 := w6) (g6 := g6) (c6 := c6) (x := (a1, k, a3)) O7 hvB hz2' hloB O6 G6 hat)
        obtain ⟨DXB, hDXB⟩ : ∃ W, E.alloc (.cells #[.int .i64 (a1 : Int), .int .i64 (k : Int), .int .i64 (a3 : Int)] 100) = W := ⟨_, rfl⟩
        have BXB : Below E.heap.size E DXB := hDXB ▸ (Below.refl _ _).alloc (Nat.le_refl _) _
        rw [hDXB] at O5B N5B Z5B HEAB
        obtain ⟨xx0B, xx1B, xx2B⟩ := cells3K ((BXB.block wr.heap.size sDB).trans hHE)
        have hdXB := (BXB.cell (p := ⟨w.heap.size, a2, none⟩) O7.1.block.2).trans hdB
        have HC6B := Lib.hid (show qB + 1 ≤ maxLen by unfold maxLen; omega)
        have HC7B := Lib.hid (show (qB + 1) * 24 ≤ 140737488355328 by omega)
        clear huB hXB
        go_wp2
        refine wp_region_held_drew (S := (fun w' => w'.cell? ⟨wr.heap.size, 0, none⟩ = some (.int .i64 (a1 : Int)) ∧ w'.cell? ⟨wr.heap.size, 1, none⟩ = some (.int .i64 (a2 : Int)) ∧ w'.cell? ⟨wr.heap.size, 2, none⟩ = some (.int .i64 (a3 : Int)))) (by kernel_rfl) ?_ (fun hHeld => ?_)
        · first | exact ⟨x0B, x1B, x2B⟩ | (simp only [hE]; exact ⟨x0B, x1B, x2B⟩)
        rw [hE]
        have hHeldB := And.intro x0B (And.intro x1B x2B)
        refine wpAnyH_take (i := 0) (v := ?_) rfl (by kernel_rfl) (by kernel_rfl) (by kernel_rfl) (fun _ _ _ h => h) (Or.inl ⟨by rfl, ?_⟩) (by assumption) ?_
        rotate_left
        (intro wS hSw; (try dsimp only at hSw); go_simp; try with_reducible rfl)
        (try simp only [Act.put, List.setIfInBounds_toArray])
        refine wpAnyH_take (i := 1) (v := ?_) rfl (by kernel_rfl) (by kernel_rfl) (by kernel_rfl) (fun _ _ _ h => h) (Or.inl ⟨by rfl, ?_⟩) (by assumption) ?_
        rotate_left
        (intro wS hSw; (try dsimp only at hSw); go_simp; try with_reducible rfl)
        (try simp only [Act.put])
        refine wpAnyH_take (i := 2) (v := ?_) rfl (by kernel_rfl) (by kernel_rfl) (by kernel_rfl) (fun _ _ _ h => h) (Or.inl ⟨by rfl, ?_⟩) (by assumption) ?_
        rotate_left
        (intro wS hSw; (try dsimp only at hSw); go_simp; try with_reducible rfl)
        (try simp only [Act.put])
        refine wpAnyH_take (i := 3) (v := ?_) rfl (by kernel_rfl) (by kernel_rfl) (by kernel_rfl) (fun _ _ _ h => h) (Or.inl ⟨by rfl, ?_⟩) (by assumption) ?_
        rotate_left
        (intro wS hSw; (try dsimp only at hSw); go_simp; try with_reducible rfl)
        (try simp only [Act.put])
        refine wpAnyH_take (i := 4) (v := ?_) rfl (by kernel_rfl) (by kernel_rfl) (by kernel_rfl) (fun _ _ _ h => h) (Or.inl ⟨by rfl, ?_⟩) (by assumption) ?_
        rotate_left
        (intro wS hSw; (try dsimp only at hSw); go_simp; try with_reducible rfl)
        (try simp only [Act.put])
        refine wpAnyH_take (i := 5) (v := ?_) rfl (by kernel_rfl) (by kernel_rfl) (by kernel_rfl) (fun _ _ _ h => h) (Or.inl ⟨by rfl, ?_⟩) (by assumption) ?_
        rotate_left
        (intro wS hSw; (try dsimp only at hSw); go_simp; try with_reducible rfl)
        (try simp only [Act.put])
        refine wpAnyH_take (i := 6) (v := ?_) rfl (by kernel_rfl) (by kernel_rfl) (by kernel_rfl) (fun _ _ _ h => h) (Or.inl ⟨by rfl, ?_⟩) (by assumption) ?_
        rotate_left
        (intro wS hSw; (try dsimp only at hSw); go_simp; try with_reducible rfl)
        (try simp only [Act.put])
        refine wpAnyH_take (i := 8) (v := ?_) rfl (by kernel_rfl) (by kernel_rfl) (by kernel_rfl) (fun _ _ _ h => h) (Or.inl ⟨by rfl, ?_⟩) (by assumption) ?_
        rotate_left
        (intro wS hSw; (try dsimp only at hSw); go_simp; try with_reducible rfl)
        (try simp only [Act.put])
        refine wpAnyH_take (i := 9) (v := ?_) rfl (by kernel_rfl) (by kernel_rfl) (by kernel_rfl) (fun _ _ _ h => h) (Or.inl ⟨by rfl, ?_⟩) (by assumption) ?_
        rotate_left
        (intro wS hSw; (try dsimp only at hSw); go_simp; try with_reducible rfl)
        (try simp only [Act.put])
        refine wpAnyH_take (i := 10) (v := ?_) rfl (by kernel_rfl) (by kernel_rfl) (by kernel_rfl) (fun _ _ _ h => h) (Or.inl ⟨by rfl, ?_⟩) (by assumption) ?_
        rotate_left
        (intro wS hSw; (try dsimp only at hSw); go_simp; try with_reducible rfl)
        (try simp only [Act.put])
        refine wpAnyH_take (i := 11) (v := ?_) rfl (by kernel_rfl) (by kernel_rfl) (by kernel_rfl) (fun _ _ _ h => h) (Or.inl ⟨by rfl, ?_⟩) (by assumption) ?_
        rotate_left
        (intro wS hSw; (try dsimp only at hSw); go_simp; try with_reducible rfl)
        (try simp only [Act.put])
        refine wpAnyH_take (i := 12) (v := ?_) rfl (by kernel_rfl) (by kernel_rfl) (by kernel_rfl) (fun _ _ _ h => h) (Or.inl ⟨by rfl, ?_⟩) (by assumption) ?_
        rotate_left
        (intro wS hSw; (try dsimp only at hSw); go_simp; try with_reducible rfl)
        (try simp only [Act.put])
        refine wpAnyH_take (i := 13) (v := ?_) rfl (by kernel_rfl) (by kernel_rfl) (by kernel_rfl) (fun _ _ _ h => h) (Or.inl ⟨by rfl, ?_⟩) (by assumption) ?_
        rotate_left
        (intro wS hSw; (try dsimp only at hSw); go_simp; try with_reducible rfl)
        (try simp only [Act.put])
        refine wpAnyH_ready (rs := [7, 14]) (by kernel_rfl) (by simp) ?_
        refine AllReadyH.cons rfl (fun K hK => ?_) (AllReadyH.cons rfl (fun K hK => ?_) AllReadyH.nil)
        go_simp
        refine hK.out _ _ ?_ (fun hHeld => ?_)
        · exact ⟨x0B, x1B, x2B⟩
        clear hK K
        (try simp only [Act.put, List.setIfInBounds_toArray, List.set_cons_zero, List.set_cons_succ])
        refine wpAnyH_ready (rs := [14]) (by kernel_rfl) (by simp) ?_
        refine AllReadyH.cons rfl (fun K hK => ?_) AllReadyH.nil
        go_simp
        refine hK.out _ _ ?_ (fun hHeld => ?_)
        · exact ⟨xx0B, xx1B, xx2B⟩
        clear hK K
        (try simp only [Act.put, List.setIfInBounds_toArray, List.set_cons_zero, List.set_cons_succ])
        refine wpAnyH_ready (rs := [15]) (by kernel_rfl) (by simp) ?_
        refine AllReadyH.cons rfl (fun K hK => ?_) AllReadyH.nil
        (with_reducible refine step_append_lies _ rfl (.tmp 41) (.tmp 48) 98 rfl w.heap.size 100 i0 (.agg #[.int .i64 0, .int .i64 0, .int .i64 0]) 3 24 Try.underlying98 hi hz0 hz1 hz2 ?c1 ?c2 (.slice XB qB cB) qB (flatK ((endsTo cs a2 k).map triOf)) rfl O5B ⟨E.heap.size, 0, none⟩ 1 1 (#[Value.int .i64 (a1 : Int), Value.int .i64 (k : Int), Value.int .i64 (a3 : Int)] : Array Value).toList rfl ?c3 N5B.out ?c4 ?c5 ?c6 ?c7 Z5B _ rfl ?_); (case c1 => rfl); (case c2 => decide); (case c3 => rfl); (case c4 => simp [Value.oneCell']); (case c5 => decide); (case c6 => exact HC6B.out); (case c7 => exact HC7B.out); intro g6B c6B w6B O6B G6B hat6B _; obtain ⟨P6B, r0B, r1B, B6B, K6B⟩ := HEAB.out w6B g6B c6B O6B G6B hat6B; have hH6B := (K6B wr.heap.size sDB (fun e => hXTB _ e rfl)).trans hHE; obtain ⟨z0B, z1B, z2B⟩ := cells3K hH6B; have hH7B := (Below.heap_setCell w6B ⟨w.heap.size, a2, none⟩ (.slice (some ⟨g6B, 0, none⟩) (qB + 1) c6B) wr.heap.size HNE.out).trans hH6B; obtain ⟨v0B, v1B, v2B⟩ := cells3K hH7B; have BQB : Below w.heap.size E (w6B.setCell ⟨w.heap.size, a2, none⟩ (.slice (some ⟨g6B, 0, none⟩) (qB + 1) c6B)) := B6B.setCell (p := ⟨w.heap.size, a2, none⟩) (Nat.le_refl _) _
        refine hK.out _ _ ?_ (fun hHeld => ?_)
        · exact ⟨z0B, z1B, z2B⟩
        clear hK K
        (try simp only [Act.put, List.setIfInBounds_toArray])
        refine wpAnyH_take (i := 16) (v := ?_) rfl (by kernel_rfl) (by kernel_rfl) (by kernel_rfl) (fun _ _ _ h => h) (Or.inl ⟨by rfl, ?_⟩) (by assumption) ?_
        rotate_left
        (intro wS hSw; (try dsimp only at hSw); go_simp; try with_reducible rfl)
        (try simp only [Act.put])
        refine wpAnyH_ready (rs := [17]) (by kernel_rfl) (by simp) ?_
        refine AllReadyH.cons rfl (fun K hK => ?_) AllReadyH.nil
        go_simp
        refine hK.out _ _ ?_ (fun hHeld => ?_)
        · exact ⟨v0B, v1B, v2B⟩
        clear hK K
        (try simp only [Act.put, List.setIfInBounds_toArray, List.set_cons_zero, List.set_cons_succ])
        refine wpAnyH_done (by kernel_rfl) ?_ _
        rotate_left
        go_simp
        refine hK.out _ _ ?_ (fun hHeld => ?_)
        · exact ⟨xx0B, xx1B, xx2B⟩
        clear hK K
        (try simp only [Act.put, List.setIfInBounds_toArray, List.set_cons_zero, List.set_cons_succ])
        refine wpAnyH_ready (rs := [7]) (by kernel_rfl) (by simp) ?_
        refine AllReadyH.cons rfl (fun K hK => ?_) AllReadyH.nil
        go_simp
        refine hK.out _ _ ?_ (fun hHeld => ?_)
        · exact ⟨xx0B, xx1B, xx2B⟩
        clear hK K
        (try simp only [Act.put, List.setIfInBounds_toArray, List.set_cons_zero, List.set_cons_succ])
        refine wpAnyH_ready (rs := [15]) (by kernel_rfl) (by simp) ?_
        refine AllReadyH.cons rfl (fun K hK => ?_) AllReadyH.nil
        (with_reducible refine step_append_lies _ rfl (.tmp 41) (.tmp 48) 98 rfl w.heap.size 100 i0 (.agg #[.int .i64 0, .int .i64 0, .int .i64 0]) 3 24 Try.underlying98 hi hz0 hz1 hz2 ?c1 ?c2 (.slice XB qB cB) qB (flatK ((endsTo cs a2 k).map triOf)) rfl O5B ⟨E.heap.size, 0, none⟩ 1 1 (#[Value.int .i64 (a1 : Int), Value.int .i64 (k : Int), Value.int .i64 (a3 : Int)] : Array Value).toList rfl ?c3 N5B.out ?c4 ?c5 ?c6 ?c7 Z5B _ rfl ?_); (case c1 => rfl); (case c2 => decide); (case c3 => rfl); (case c4 => simp [Value.oneCell']); (case c5 => decide); (case c6 => exact HC6B.out); (case c7 => exact HC7B.out); intro g6B c6B w6B O6B G6B hat6B _; obtain ⟨P6B, r0B, r1B, B6B, K6B⟩ := HEAB.out w6B g6B c6B O6B G6B hat6B; have hH6B := (K6B wr.heap.size sDB (fun e => hXTB _ e rfl)).trans hHE; obtain ⟨z0B, z1B, z2B⟩ := cells3K hH6B; have hH7B := (Below.heap_setCell w6B ⟨w.heap.size, a2, none⟩ (.slice (some ⟨g6B, 0, none⟩) (qB + 1) c6B) wr.heap.size HNE.out).trans hH6B; obtain ⟨v0B, v1B, v2B⟩ := cells3K hH7B; have BQB : Below w.heap.size E (w6B.setCell ⟨w.heap.size, a2, none⟩ (.slice (some ⟨g6B, 0, none⟩) (qB + 1) c6B)) := B6B.setCell (p := ⟨w.heap.size, a2, none⟩) (Nat.le_refl _) _
        refine hK.out _ _ ?_ (fun hHeld => ?_)
        · exact ⟨z0B, z1B, z2B⟩
        clear hK K
        (try simp only [Act.put, List.setIfInBounds_toArray])
        refine wpAnyH_take (i := 16) (v := ?_) rfl (by kernel_rfl) (by kernel_rfl) (by kernel_rfl) (fun _ _ _ h => h) (Or.inl ⟨by rfl, ?_⟩) (by assumption) ?_
        rotate_left
        (intro wS hSw; (try dsimp only at hSw); go_simp; try with_reducible rfl)
        (try simp only [Act.put])
        refine wpAnyH_ready (rs := [17]) (by kernel_rfl) (by simp) ?_
        refine AllReadyH.cons rfl (fun K hK => ?_) AllReadyH.nil
        go_simp
        refine hK.out _ _ ?_ (fun hHeld => ?_)
        · exact ⟨v0B, v1B, v2B⟩
        clear hK K
        (try simp only [Act.put, List.setIfInBounds_toArray, List.set_cons_zero, List.set_cons_succ])
        refine wpAnyH_done (by kernel_rfl) ?_ _
        all_goals
          rw [← HS.out] at P6B
          have BF := BE.trans (BQB)
          go_wp2
          go_roundw
          case rel => exact ⟨k + 1, _, by omega, by go_num, P6B, BF⟩
          case measure => simp [intOf]; omega
    · have hltB : decide ((k : Int) < (n : Int)) = false := by simp; omega
      obtain rfl : k = n := by omega
      have O3 : OwnE wr w.heap.size w.heap.size m (endsN m cs) := by unfold endsN; rw [HL.out]; exact ⟨vs, O2⟩
      go_wp2
      go_ret
      exact ⟨_, rfl, O3, B2⟩
end Go.Proofs.Ytkmdpmhaljieaaa
