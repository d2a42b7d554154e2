/-
  The source of drawn numbers: what is proved here is that it returns numbers in their range and writes its own block alone. Condition: fewer than 2^40 numbers are drawn.
-/
import Derived.Test.YthcfjnedpffbbaaDoorBits
import Derived.IntWalk
namespace Go.Proofs.YthcfjnedpffbbaaDoor
open Go.RowKit

/-- Block r is a source that has given p numbers; the bytes that it reads lie below block lo. -/
def Rd (w : World) (lo r p : Nat) : Prop :=
  lo ≤ r ∧ ∃ A n c zs, w.heap[r]? = some (.cells #[.slice A n c, .int .i64 ((p : Nat) : Int)] 100 (0, 0)) ∧ Has w A n (ints .u8 zs) ∧ U8s zs ∧ n ≤ 2000 ∧ (0 < n → ∀ ad, A = some ad → ad.block < lo)

section
variable {w w' w'' : World} {lo r p : Nat}
theorem Rd.lt (h : Rd w lo r p) : r < w.heap.size := by
  obtain ⟨_, A, n, c, zs, hh, _⟩ := h
  exact (Array.getElem?_eq_some_iff.1 hh).1
theorem Rd.grown {row : Option Nat} (h : Rd w lo r p) (hg : w.grownBy w' row) (hr : ∀ k, row = some k → lo ≤ k ∧ k ≠ r) : Rd w' lo r p := by
  have hlt := h.lt
  obtain ⟨hl, A, n, c, zs, hh, hH, hu, hn, hA⟩ := h
  refine ⟨hl, A, n, c, zs, ?_, hH.grown' hg (fun h0 a ha e => ?_), hu, hn, hA⟩
  · rw [hg.block r hlt (fun e => (hr r e.symm).2 rfl)]; exact hh
  · have h1 := hA h0 a ha
    have h2 := (hr a.block e.symm).1
    omega
theorem Rd.bel (h : Rd w lo r p) (hb : Below w.heap.size w w') : Rd w' lo r p := h.grown (grown_of_below hb) (fun k hk => by cases hk)
theorem gr_trans {row : Option Nat} (h : w.grownBy w' row) (k : w'.grownBy w'' row) : w.grownBy w'' row :=
  ⟨k.os.trans h.os, k.tape.trans h.tape, k.output.trans h.output, Nat.le_trans h.size k.size, fun i hi hne => (k.block i (Nat.lt_of_lt_of_le hi h.size) hne).trans (h.block i hi hne)⟩
theorem gr_new {row row' : Option Nat} (h : w.grownBy w' row) (k : w'.grownBy w'' row') (hr : ∀ g, row' = some g → w.heap.size ≤ g) : w.grownBy w'' row :=
  ⟨k.os.trans h.os, k.tape.trans h.tape, k.output.trans h.output, Nat.le_trans h.size k.size, fun i hi hne => (k.block i (Nat.lt_of_lt_of_le hi h.size) (fun e => by have := hr i e.symm; omega)).trans (h.block i hi hne)⟩
theorem gr_bel {row : Option Nat} (h : w.grownBy w' row) (k : Below w'.heap.size w' w'') : w.grownBy w'' row := gr_new h (grown_of_below k) (fun g hg => by cases hg)
end

theorem xor64_nonneg (a b : Int) (ha : 0 ≤ a) (ha' : a < 9223372036854775808) (hb : 0 ≤ b) (hb' : b < 9223372036854775808) : 0 ≤ bits .xor .i64 a b := by
  obtain ⟨x, rfl⟩ := Int.eq_ofNat_of_zero_le ha
  obtain ⟨y, rfl⟩ := Int.eq_ofNat_of_zero_le hb
  have hx : x ^^^ y < 2 ^ 63 := Nat.xor_lt_two_pow (by omega) (by omega)
  have h1 : ∀ n : Nat, n < 9223372036854775808 → (BitVec.ofInt 64 (n : Int)).toNat = n := fun n hn => by
    rw [BitVec.ofInt_natCast, BitVec.toNat_ofNat]; exact Nat.mod_eq_of_lt (by omega)
  have h2 : bits .xor .i64 (x : Int) (y : Int) = IntKind.i64.wrap ((BitVec.ofInt 64 (x : Int) ^^^ BitVec.ofInt 64 (y : Int)).toNat : Int) := rfl
  rw [h2, BitVec.toNat_xor, h1 x (by omega), h1 y (by omega), IntKind.wrap_i64]
  omega

/-- What a pick answers. -/
def Picked (m v : Int) : Prop := 0 ≤ v ∧ (v < m ∨ v = 0)

theorem picked_mod (z m : Int) (h1 : 1 ≤ m) : Picked m (z % m) := ⟨Int.emod_nonneg _ (by omega), .inl (Int.emod_lt_of_pos _ (by omega))⟩

theorem picked_tmod (z m : Int) (h0 : 0 ≤ z) (h1 : ¬ m < 1) : Picked m (z.tmod m) := by
  rw [Int.tmod_eq_emod_of_nonneg h0]; exact picked_mod z m (by omega)

set_option maxHeartbeats 2000000 in
set_option maxRecDepth 100000 in
theorem pick_any {lo r p : Nat} {m : Int} {w : World} (h : Rd w lo r p) (hp : p ≤ 1099511627776) (hm : -9223372036854775808 ≤ m ∧ m ≤ 9223372036854775807) :
    Calls Tryd.prog 61 #[.pointer (some ⟨r, 0, none⟩), .int .i64 m] w fun e w' => ∃ v, e = .returned (.int .i64 v) ∧ Picked m v ∧ Rd w' lo r (p + 1) ∧ w.grownBy w' (some r) := by
  have hR := h
  obtain ⟨hl, A, n, c, zs, hh, hH, hu, hn, hA⟩ := h
  have hlt := hR.lt
  have c0 : w.cell? ⟨r, 0, none⟩ = some (.slice A n c) := by rw [cell_of_row w r 0 _ _ (0, 0) hh]; rfl
  have c1 : w.cell? ⟨r, 1, none⟩ = some (.int .i64 (p : Int)) := by rw [cell_of_row w r 1 _ _ (0, 0) hh]; rfl
  have f1 : w.frozen? ⟨r, 1, none⟩ = false := by simp [World.frozen?, hh]
  have hset : Rd (w.setCell ⟨r, 1, none⟩ (.int .i64 ((p : Int) + 1))) lo r (p + 1) := by
    refine ⟨hl, A, n, c, zs, ?_, hH.grown' (grown_set (World.grownBy.refl w (some r)) 1 _) (fun h0 a ha e => by have := hA h0 a ha; injection e with e; omega), hu, hn, hA⟩
    rw [heap_setCell_same w r 1 _ _ _ hh]
    simp
  have hgr : w.grownBy (w.setCell ⟨r, 1, none⟩ (.int .i64 ((p : Int) + 1))) (some r) := grown_set (World.grownBy.refl w (some r)) 1 _
  have hfin : ∀ k, Rd ((w.setCell ⟨r, 1, none⟩ (.int .i64 ((p : Int) + 1))).drewN k) lo r (p + 1) ∧ w.grownBy ((w.setCell ⟨r, 1, none⟩ (.int .i64 ((p : Int) + 1))).drewN k) (some r) :=
    fun k => ⟨hset.bel (below_drewN _ _), gr_bel hgr (below_drewN _ _)⟩
  have HF := Lib.hid hfin
  obtain ⟨hm0, hm1⟩ := hm
  clear hset hgr hfin hh
  by_cases h1 : m < 1
  · go_enter Tryd.func61, Tryd.ntmps61
    go_wp2
    go_ret
    exact ⟨0, rfl, ⟨by omega, .inr rfl⟩, HF.out 0⟩
  · by_cases h2 : n = 0
    · subst h2
      go_enter Tryd.func61, Tryd.ntmps61
      go_wp2
      go_ret
      exact ⟨0, rfl, ⟨by omega, .inr rfl⟩, HF.out 0⟩
    · have hn0 : ((n : Int) == 0) = false := by simp; omega
      by_cases h3 : p < n
      · obtain ⟨b, o, z, rfl, hbl, hx, hc⟩ := hH.at_ h3
        obtain ⟨z0, z1⟩ := hu z (List.mem_of_getElem? hx)
        have hbr : b ≠ r := by have := hA (by omega) ⟨b, o, none⟩ rfl; simp at this; omega
        have hc1 : (w.setCell ⟨r, 1, none⟩ (.int .i64 ((p : Int) + 1))).cell? ⟨b, o + p, none⟩ = some (.int .u8 z) := by
          rw [World.cell?_setCell_other _ _ _ _ (fun e => hbr (by injection e with e1; exact e1.symm))]; exact hc
        clear hx
        go_enter Tryd.func61, Tryd.ntmps61
        go_wp2
        go_ret
        exact ⟨_, rfl, picked_mod z m h1, HF.out 0⟩
      · obtain ⟨b, o, z, hA1, hbl, hx, hc⟩ := hH.at_ (i := p % n) (Nat.mod_lt _ (by omega))
        obtain ⟨b', o', y, hA2, _, hy, hc'⟩ := hH.at_ (i := (p * 7 + 3) % n) (Nat.mod_lt _ (by omega))
        subst hA1
        injection hA2 with hA2
        injection hA2 with e1 e2
        subst e1 e2
        obtain ⟨z0, z1⟩ := hu z (List.mem_of_getElem? hx)
        obtain ⟨y0, y1⟩ := hu y (List.mem_of_getElem? hy)
        have hbr : b ≠ r := by have := hA (by omega) ⟨b, o, none⟩ rfl; simp at this; omega
        have hc1 : (w.setCell ⟨r, 1, none⟩ (.int .i64 ((p : Int) + 1))).cell? ⟨b, o + p % n, none⟩ = some (.int .u8 z) := by
          rw [World.cell?_setCell_other _ _ _ _ (fun e => hbr (by injection e with e1; exact e1.symm))]; exact hc
        have hc2 : (w.setCell ⟨r, 1, none⟩ (.int .i64 ((p : Int) + 1))).cell? ⟨b, o + (p * 7 + 3) % n, none⟩ = some (.int .u8 y) := by
          rw [World.cell?_setCell_other _ _ _ _ (fun e => hbr (by injection e with e1; exact e1.symm))]; exact hc'
        have hd3 : decide ((p : Int) < (n : Int)) = false := by simp; omega
        clear hx hy hc hc'
        have hnp : (0 : Int) < (n : Int) := by omega
        have i0 : (0 : Int) ≤ (p : Int) % (n : Int) := Int.emod_nonneg _ (by omega)
        have i1 : (p : Int) % (n : Int) < (n : Int) := Int.emod_lt_of_pos _ hnp
        have i2 : ((p : Int) % (n : Int)).toNat = p % n := by rw [← Int.natCast_emod, Int.toNat_natCast]
        have j0 : (0 : Int) ≤ ((p : Int) * 7 + 3) % (n : Int) := Int.emod_nonneg _ (by omega)
        have j1 : ((p : Int) * 7 + 3) % (n : Int) < (n : Int) := Int.emod_lt_of_pos _ hnp
        have j2 : (((p : Int) * 7 + 3) % (n : Int)).toNat = (p * 7 + 3) % n := by
          rw [show ((p : Int) * 7 + 3) = ((p * 7 + 3 : Nat) : Int) by omega, ← Int.natCast_emod, Int.toNat_natCast]
        have d0 : (0 : Int) ≤ (p : Int) / (n : Int) := Int.ediv_nonneg (by omega) (by omega)
        have d1 : (p : Int) / (n : Int) ≤ 1099511627776 := Int.le_trans (Int.ediv_le_self _ (by omega)) (by omega)
        have w1 : IntKind.i64.wrap ((p : Int) * 7) = (p : Int) * 7 := IntWalk.i64_in _ (by omega)
        have w2 : IntKind.i64.wrap ((p : Int) * 7 + 3) = (p : Int) * 7 + 3 := IntWalk.i64_in _ (by omega)
        go_enter Tryd.func61, Tryd.ntmps61
        go_wp2
        go_quiet (fail)
        go_wp2
        go_ret
        refine ⟨_, rfl, ?_, HF.out _⟩
        exact picked_tmod _ m (xor64_nonneg _ _ (by omega) (by omega) (by omega) (by omega)) (by omega)

theorem Own.past {w w' : World} {lo r n c : Nat} {e : TypeId} {A : Option Addr} {xs : List Value} (h : Own w lo e A n c xs) (hr : r < lo) (hg : w.grownBy w' (some r)) : Own w' lo e A n c xs :=
  h.grown hg (fun a hA he => by subst hA; have := h.block; injection he with he; omega)
theorem own_far {w w' : World} {lo lo' r p n c : Nat} {e : TypeId} {A : Option Addr} {xs : List Value} (h : Own w lo' e A n c xs) (hr : r < lo') (R : Rd w' lo r p) : ∀ k, A.map (·.block) = some k → lo ≤ k ∧ k ≠ r := by
  intro k hk
  cases A with
  | none => cases hk
  | some a => have := h.block; have := R.1; simp at hk; omega
theorem own_ge {w : World} {lo' n c : Nat} {e : TypeId} {A : Option Addr} {xs : List Value} (h : Own w lo' e A n c xs) : ∀ k, A.map (·.block) = some k → lo' ≤ k := by
  intro k hk
  cases A with
  | none => cases hk
  | some a => have := h.block; simp at hk; omega
theorem Has.lit {w : World} {e : TypeId} (cs : Array Value) (hm : cs.size ≤ maxLen) : Has (w.alloc (.cells cs e)) (some ⟨w.heap.size, 0, none⟩) cs.size cs.toList :=
  Own.has (World.ownsRow_lit w cs cs.size (Nat.le_refl w.heap.size) hm (by omega) : Own (w.alloc (.cells cs e)) w.heap.size e _ _ cs.size _)
theorem Has.row {w : World} {e : TypeId} {n : Nat} {zs : List Int} (cs : Array Value) (hc : cs.toList = ints .i64 zs) (hn : cs.size = n) (hm : n ≤ maxLen) : Has (w.alloc (.cells cs e)) (some ⟨w.heap.size, 0, none⟩) n (ints .i64 zs) := by
  subst hn; rw [← hc]; exact Has.lit cs hm

theorem Has.rowAt {w : World} {e : TypeId} {n : Nat} {zs : List Int} (cs : Array Value) (hc : cs.toList = ints .i64 zs) (hn : cs.size = n) (hm : n ≤ maxLen) (H : Nat) (hH : w.heap.size = H) : Has (w.alloc (.cells cs e)) (some ⟨H, 0, none⟩) n (ints .i64 zs) := by
  subst hH; exact Has.row cs hc hn hm
/-- The first of two literals is still there behind the second. -/
theorem Own.lit0 {w w' : World} {r e : Nat} {o : Obj} {cs : Array Value} (hr : r < w.heap.size) (hm : cs.size ≤ maxLen) (hg : ((w.alloc (.cells cs e)).alloc o).grownBy w' (some r)) : Own w' w.heap.size e (some ⟨w.heap.size, 0, none⟩) cs.size cs.size cs.toList :=
  Own.past (r := r) (Own.bel (World.ownsRow_lit w cs cs.size (Nat.le_refl w.heap.size) hm (by omega) : Own (w.alloc (.cells cs e)) w.heap.size e _ _ cs.size _) ((Below.refl _ _).alloc (Nat.le_refl _) _)) hr hg

set_option maxHeartbeats 1000000 in
theorem num_any {lo r p n c : Nat} {A : Option Addr} {l : List Int} {w : World} (h : Rd w lo r p) (hp : p ≤ 1099511627776) (hl : Has w A n (ints .i64 l)) (hA : ∀ ad, A = some ad → ad.block ≠ r) (hn : 0 < n) (hn' : n ≤ 1000000) :
    Calls Tryd.prog 86 #[.pointer (some ⟨r, 0, none⟩), .slice A n c] w fun e w' => ∃ v, e = .returned (.int .i64 v) ∧ v ∈ l ∧ Rd w' lo r (p + 1) ∧ w.grownBy w' (some r) := by
  go_enter Tryd.func86, Tryd.ntmps86
  go_wp2_with (fail)
  refine (pick_any h hp (by omega)).mono ?_
  rintro e w1 ⟨v, rfl, ⟨hv0, hv1⟩, R1, G1⟩
  obtain ⟨k, rfl⟩ := Int.eq_ofNat_of_zero_le hv0
  have hk : k < n := by omega
  have hl1 : Has w1 A n (ints .i64 l) := hl.grown G1 (fun a ha he => hA a ha (by injection he))
  obtain ⟨b, o, z, rfl, hbl, hx, hc⟩ := hl1.at_ hk
  have hm := List.mem_of_getElem? hx
  have HM := Lib.hid hm
  clear hx hm hv1
  go_wp2
  go_ret
  exact ⟨z, rfl, HM.out, R1, G1⟩

set_option maxHeartbeats 1000000 in
theorem open_any {A : Option Addr} {n c : Nat} {zs : List Int} {w : World} (h : Has w A n (ints .u8 zs)) (hu : U8s zs) (hc : n ≤ c ∧ c ≤ maxLen) :
    Calls Tryd.prog 57 #[.slice A n c] w fun e w' => ∃ r, e = .returned (.pointer (some ⟨r, 0, none⟩)) ∧ Rd w' w.heap.size r 0 ∧ Below w.heap.size w w' := by
  have hcm := hc.2
  unfold maxLen at hcm
  have hblk : ∀ m ys, Has w A m ys → 0 < m → ∀ ad, A = some ad → ad.block < w.heap.size := fun m ys hm h0 ad ha => by
    obtain ⟨b, o, hA, hcell⟩ := hm.2 0 h0
    subst ha
    injection hA with hA
    subst hA
    have hy : 0 < ys.length := by have := hm.1; omega
    have hs : ys[0]? = some ys[0] := List.getElem?_eq_getElem hy
    exact World.block_lt_of_cell? w ⟨b, o + 0, none⟩ (hcell.trans hs)
  by_cases hn : n ≤ 2000
  · go_enter Tryd.func57, Tryd.ntmps57
    go_wp2
    go_ret
    refine ⟨_, rfl, ⟨Nat.le_refl _, A, n, c, zs, heap_alloc_new w _, h.bel ((Below.refl _ _).alloc (Nat.le_refl _) _), hu, hn, hblk n _ h⟩, (Below.refl _ _).alloc (Nat.le_refl _) _⟩
  · have h2 : Has w A 2000 (ints .u8 (zs.take 2000)) := by
      refine ⟨by rw [ints_length, List.length_take, h.len]; omega, fun i hi => ?_⟩
      obtain ⟨b, o, hA, hcell⟩ := h.2 i (by omega)
      refine ⟨b, o, hA, hcell.trans ?_⟩
      simp [ints, hi]
    have hu2 : U8s (zs.take 2000) := fun z hz => hu z (List.mem_of_mem_take hz)
    have hA2 := hblk 2000 _ h2 (by omega)
    obtain ⟨b, o, z, rfl, _⟩ := h2.at_ (i := 0) (by omega)
    go_enter Tryd.func57, Tryd.ntmps57
    go_wp2
    go_ret
    exact ⟨_, rfl, ⟨Nat.le_refl _, _, 2000, _, _, heap_alloc_new w _, h2.bel ((Below.refl _ _).alloc (Nat.le_refl _) _), hu2, Nat.le_refl _, fun _ => hA2⟩, (Below.refl _ _).alloc (Nat.le_refl _) _⟩

/-- A block that was made ahead of the call's literals is none of them. -/
theorem Rd.alloc {w : World} {lo r p : Nat} (h : Rd w lo r p) (o : Obj) : Rd (w.alloc o) lo r p := h.bel ((Below.refl _ _).alloc (Nat.le_refl _) _)
theorem gr_alloc {w w' : World} {o : Obj} {row : Option Nat} (h : (w.alloc o).grownBy w' row) : w.grownBy w' row :=
  gr_trans (World.grownBy_alloc w o row) h
end Go.Proofs.YthcfjnedpffbbaaDoor
