/-
  Chapter 7's plain functions of the model, roots: what is proved here is what they return, and that they write nothing that was there. Condition: lengths up to 2^24.
-/
import Derived.Test.YtkmdpmhaljieaaaMathCab
import Derived.Test.YtkmdpmhaljieaaaPar
namespace Go.Proofs.Ytkmdpmhaljieaaa
open Go.RowKit

theorem Try.infoBool : (Try.prog.info? 4).map (fun i => (i.zero, i.size, i.bytes)) = some (some (.bool false), 1, 1) := by kernel_rfl
theorem kOk_not {n : Int} {ks : List Tri} {k : Tri} (hk : k ∈ ks) (h : ¬ kabOk n k) : ¬ kOk n ks := fun hh => h (hh.2.2 k hk)

set_option maxHeartbeats 4000000 in
theorem specCablesValid_w {A : Option Addr} {n c : Nat} {ks : List Tri} {nz : Int} {w : World} (h : HasK w A n ks) (hn : n ≤ 16777216) :
    Calls Try.prog 23 #[.int .i64 nz, .slice A n c] w fun e w' => e = .returned (.bool (decide (kOk nz ks))) ∧ Below w.heap.size w w' := by
  have HL := Lib.hid h.1
  by_cases hz : 1 ≤ nz ∧ nz ≤ 8
  · have C1 := Lib.hid (l1In_yes nz 1 8 w hz.1 hz.2)
    by_cases h20 : n ≤ 20
    · have h20B : decide ((n : Int) > 20) = false := by simp; omega
      have h20C : decide (20 < (n : Int)) = false := by simp; omega
      have hz1 := hz.1
      have hz2 := hz.2
      go_enter Try.func23, Try.ntmps23
      go_wp2_with (fail)
      refine C1.out.mono ?_
      rintro e w' ⟨rfl, rfl⟩
      go_wp2
      go_loopw [5] (fun i wr => ∃ k : Nat, k ≤ n ∧ i = .int .i64 k ∧ Hid (∀ f ∈ ks.take k, kabOk nz f) ∧ Below w.heap.size w wr) (fun i _ => n - (intOf i).toNat)
      case atStart =>
        have : Hid (∀ f ∈ ks.take 0, kabOk nz f) := fun f hf => by simp at hf
        exact ⟨0, Nat.zero_le _, rfl, this, Below.refl _ _⟩
      case round =>
        obtain ⟨k, hk, rfl, HF, B⟩ := hrel
        have hge := B.size
        by_cases hlt : k < n
        · have hltB : decide ((k : Int) < (n : Int)) = true := by simp; omega
          obtain ⟨b, o, f, t, q, rfl, hbl, hx, d0, d1, d2⟩ := (h.bel B).at_ hlt
          have hHn := heap_alloc_new wr (.cells #[.int .i64 f, .int .i64 t, .int .i64 q] 29)
          have hHz := heap_alloc_new wr (.cells #[.int .i64 0, .int .i64 0, .int .i64 0] 29)
          obtain ⟨y0, y1, y2⟩ := cells3K hHz
          obtain ⟨x0, x1, x2⟩ := cells3K hHn
          have BA := B.alloc hge (.cells #[.int .i64 f, .int .i64 t, .int .i64 q] 29)
          have HM := Lib.hid (List.mem_of_getElem? hx)
          have HT := Lib.hid (show ∀ g ∈ ks.take (k + 1), g ∈ ks.take k ∨ g = (f, t, q) from fun g hg => by
            rw [List.take_add_one, hx] at hg
            rcases List.mem_append.1 hg with hg | hg
            · exact Or.inl hg
            · right; simpa using hg)
          clear hx hHn hHz
          by_cases h1 : 0 ≤ f ∧ f ≤ nz - 1
          · have D1 := Lib.hid (fun W => l1In_yes f 0 (nz - 1) W h1.1 h1.2)
            by_cases h2 : 0 ≤ t ∧ t ≤ nz - 1
            · have D2 := Lib.hid (fun W => l1In_yes t 0 (nz - 1) W h2.1 h2.2)
              by_cases h3 : f = t
              · have h3B : (f == t) = true := by simp [h3]
                have HB : Hid (¬ kOk nz ks) := kOk_not HM.out (fun hh => hh.2.2.1 h3)
                clear h1 h2 h3
                go_wp2_with (fail)
                refine (D1.out _).mono ?_
                rintro e w' ⟨rfl, rfl⟩
                go_wp2_with (fail)
                refine (D2.out _).mono ?_
                rintro e w' ⟨rfl, rfl⟩
                go_wp2
                go_ret
                exact ⟨ret_bool (by rw [decide_eq_false HB.out]), BA⟩
              · have h3B : (f == t) = false := by simp [h3]
                by_cases h4 : 1 ≤ q ∧ q ≤ 99
                · have D3 := Lib.hid (fun W => l1In_yes q 1 99 W h4.1 h4.2)
                  have HF2 : Hid (∀ g ∈ ks.take (k + 1), kabOk nz g) := fun g hg => by
                    rcases HT.out g hg with hg | rfl
                    · exact HF.out g hg
                    · exact ⟨h1, h2, h3, h4⟩
                  clear h1 h2 h3 h4
                  go_wp2_with (fail)
                  refine (D1.out _).mono ?_
                  rintro e w' ⟨rfl, rfl⟩
                  go_wp2_with (fail)
                  refine (D2.out _).mono ?_
                  rintro e w' ⟨rfl, rfl⟩
                  go_wp2_with (fail)
                  refine (D3.out _).mono ?_
                  rintro e w' ⟨rfl, rfl⟩
                  go_wp2
                  go_roundw
                  case rel => exact ⟨k + 1, by omega, by go_num, HF2, BA⟩
                  case measure => simp [intOf]; omega
                · have D3 := Lib.hid (fun W => l1In_no q 1 99 W h4)
                  have HB : Hid (¬ kOk nz ks) := kOk_not HM.out (fun hh => h4 hh.2.2.2)
                  clear h1 h2 h3 h4
                  go_wp2_with (fail)
                  refine (D1.out _).mono ?_
                  rintro e w' ⟨rfl, rfl⟩
                  go_wp2_with (fail)
                  refine (D2.out _).mono ?_
                  rintro e w' ⟨rfl, rfl⟩
                  go_wp2_with (fail)
                  refine (D3.out _).mono ?_
                  rintro e w' ⟨rfl, rfl⟩
                  go_wp2
                  go_ret
                  exact ⟨ret_bool (by rw [decide_eq_false HB.out]), BA⟩
            · have D2 := Lib.hid (fun W => l1In_no t 0 (nz - 1) W h2)
              have HB : Hid (¬ kOk nz ks) := kOk_not HM.out (fun hh => h2 hh.2.1)
              clear h1 h2
              go_wp2_with (fail)
              refine (D1.out _).mono ?_
              rintro e w' ⟨rfl, rfl⟩
              go_wp2_with (fail)
              refine (D2.out _).mono ?_
              rintro e w' ⟨rfl, rfl⟩
              go_wp2
              go_ret
              exact ⟨ret_bool (by rw [decide_eq_false HB.out]), BA⟩
          · have D1 := Lib.hid (fun W => l1In_no f 0 (nz - 1) W h1)
            have HB : Hid (¬ kOk nz ks) := kOk_not HM.out (fun hh => h1 hh.1)
            clear h1
            go_wp2_with (fail)
            refine (D1.out _).mono ?_
            rintro e w' ⟨rfl, rfl⟩
            go_wp2
            go_ret
            exact ⟨ret_bool (by rw [decide_eq_false HB.out]), BA⟩
        · have hltB : decide ((k : Int) < (n : Int)) = false := by simp; omega
          obtain rfl : k = n := by omega
          have HE : Hid (kOk nz ks) := by
            have h1 := HF.out
            have h2 := HL.out
            rw [List.take_of_length_le (by omega)] at h1
            exact (⟨⟨hz1, hz2⟩, by omega, h1⟩ : kOk nz ks)
          go_wp2
          go_ret
          exact ⟨ret_bool (by rw [decide_eq_true HE.out]), B⟩
    · have h20B : decide ((n : Int) > 20) = true := by simp; omega
      have h20C : decide (20 < (n : Int)) = true := by simp; omega
      have HB : Hid (¬ kOk nz ks) := fun hg => h20 (by have h1 := hg.2.1; have h2 := HL.out; omega)
      clear hz
      go_enter Try.func23, Try.ntmps23
      go_wp2_with (fail)
      refine C1.out.mono ?_
      rintro e w' ⟨rfl, rfl⟩
      go_wp2
      go_ret
      exact ⟨ret_bool (by rw [decide_eq_false HB.out]), Below.refl _ _⟩
  · have C1 := Lib.hid (l1In_no nz 1 8 w hz)
    have HB : Hid (¬ kOk nz ks) := fun hg => hz hg.1
    clear hz
    go_enter Try.func23, Try.ntmps23
    go_wp2_with (fail)
    refine C1.out.mono ?_
    rintro e w' ⟨rfl, rfl⟩
    go_wp2
    go_ret
    exact ⟨ret_bool (by rw [decide_eq_false HB.out]), Below.refl _ _⟩
theorem specCablesValid_b {A : Option Addr} {n c : Nat} {ks : List Tri} {nz : Int} {w : World} {b : Bool} (h : HasK w A n ks) (hn : n ≤ 16777216) (hb : decide (kOk nz ks) = b) :
    Calls Try.prog 23 #[.int .i64 nz, .slice A n c] w fun e w' => e = .returned (.bool b) ∧ Below w.heap.size w w' := by rw [← hb]; exact specCablesValid_w h hn

def othI (c : Cab) (x : Nat) : Int := match otherN c x with | some o => (o : Int) | none => -1
theorem othI_some {c : Cab} {x o : Nat} (h : otherN c x = some o) : othI c x = (o : Int) := by unfold othI; rw [h]
theorem othI_none {c : Cab} {x : Nat} (h : otherN c x = none) : othI c x = -1 := by unfold othI; rw [h]
set_option maxHeartbeats 1000000 in
theorem l7Other_any (c : Cab) (x : Nat) (w : World) :
    Calls Try.prog 75 #[.agg #[.int .i64 (c.1 : Int), .int .i64 (c.2.1 : Int), .int .i64 (c.2.2 : Int)], .int .i64 (x : Int)] w fun e w' => e = .returned (.int .i64 (othI c x)) ∧ Below w.heap.size w w' := by
  have BA : Below w.heap.size w (w.alloc (.cells #[.int .i64 (c.1 : Int), .int .i64 (c.2.1 : Int), .int .i64 (c.2.2 : Int)] 29)) := (Below.refl _ _).alloc (Nat.le_refl _) _
  obtain ⟨x0, x1, x2⟩ := cells3K (heap_alloc_new w (.cells #[.int .i64 (c.1 : Int), .int .i64 (c.2.1 : Int), .int .i64 (c.2.2 : Int)] 29))
  by_cases h1 : x = c.1
  · have HE := Lib.hid (othI_some (show otherN c x = some c.2.1 by unfold otherN; rw [if_pos h1]))
    have h1B : ((x : Int) == (c.1 : Int)) = true := by simp [h1]
    clear h1
    go_enter Try.func75, Try.ntmps75
    go_wp2
    go_ret
    exact ⟨ret_int HE.out.symm, BA⟩
  · have h1B : ((x : Int) == (c.1 : Int)) = false := by simp; omega
    by_cases h2 : x = c.2.1
    · have HE := Lib.hid (othI_some (show otherN c x = some c.1 by unfold otherN; rw [if_neg h1, if_pos h2]))
      have h2B : ((x : Int) == (c.2.1 : Int)) = true := by simp [h2]
      clear h1 h2
      go_enter Try.func75, Try.ntmps75
      go_wp2
      go_ret
      exact ⟨ret_int HE.out.symm, BA⟩
    · have HE := Lib.hid (othI_none (show otherN c x = none by unfold otherN; rw [if_neg h1, if_neg h2]))
      have h2B : ((x : Int) == (c.2.1 : Int)) = false := by simp; omega
      clear h1 h2
      go_enter Try.func75, Try.ntmps75
      go_wp2
      go_ret
      exact ⟨ret_int HE.out.symm, BA⟩

def bools (l : List Bool) : List Value := l.map Value.bool
theorem bools_len (l : List Bool) : (bools l).length = l.length := by simp [bools]
theorem bools_set (l : List Bool) (i : Nat) (b : Bool) : (bools l).set i (.bool b) = bools (l.set i b) := by simp [bools, List.map_set]
theorem bools_at {w : World} {lo n c g : Nat} {e : TypeId} {l : List Bool} (h : Own w lo e (some ⟨g, 0, none⟩) n c (bools l)) {i : Nat} (hi : i < n) : w.cell? ⟨g, i, none⟩ = some (.bool (hasB l i)) ∧ w.frozen? ⟨g, i, none⟩ = false := by
  obtain ⟨u, hu, hc, hf⟩ := h.at_ hi
  refine ⟨hc.trans ?_, hf⟩
  rw [← hu]
  have hl := h.has.1
  rw [bools_len] at hl
  unfold bools hasB
  rw [List.getElem?_map, List.getD_eq_getElem?_getD, List.getElem?_eq_getElem (show i < l.length by omega)]
  rfl
theorem joins_succ (cs : List Cab) (l : List Bool) (k : Nat) (hk : k < cs.length) : (cs.take (k + 1)).foldl relJ l = relJ ((cs.take k).foldl relJ l) (cab cs k) := by
  have hx : cs[k]? = some (cab cs k) := by unfold cab; rw [List.getD_eq_getElem?_getD, List.getElem?_eq_getElem hk]; rfl
  rw [List.take_add_one, hx, List.foldl_append]; rfl
theorem joins_len (cs : List Cab) : ∀ l : List Bool, (cs.foldl relJ l).length = l.length := passJ_len cs
end Go.Proofs.Ytkmdpmhaljieaaa
