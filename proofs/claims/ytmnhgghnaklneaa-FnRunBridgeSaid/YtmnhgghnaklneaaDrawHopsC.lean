/-
  Chapter 6's draw of frames, with the room that their slice has: what is proved here is which numbers and frames are drawn, and that nothing that was there is written. No condition.
-/
import Derived.Test.YtmnhgghnaklneaaDrawHops
import Derived.Test.YtmnhgghnaklneaaDrawBridgeF
namespace Go.Proofs.Ytmnhgghnaklneaa
open Go.RowKit

theorem OwnH.cap {w : World} {lo n c : Nat} {A : Option Addr} {hs : List Hop3} (h : OwnH w lo A n c hs) : n ≤ c := by
  rcases h.2 with ⟨hv, h0⟩ | ⟨g, cap, cur, hv, _, _, hnc, _⟩
  · omega
  · cases hv; exact hnc
/-- The front of a slice of frames. -/
theorem HasH.front {w : World} {A : Option Addr} {n : Nat} {hs : List Hop3} (h : HasH w A n hs) {k : Nat} (hk : k ≤ n) : HasH w A k (hs.take k) := by
  refine ⟨by rw [List.length_take]; have := h.1; omega, fun i hi => ?_⟩
  obtain ⟨b, o, x, hA, hx, c⟩ := h.2 i (by omega)
  exact ⟨b, o, x, hA, by rw [List.getElem?_take_of_lt hi]; exact hx, c⟩
/-- 'list[:k]'. -/
theorem run_front {P : Program} {t e : TypeId} {sz : Nat} (ht : P.underlying t = some (.slice e)) (hz : ∀ w, (Go.sizeOf e).run P w = .ok sz w) {b o n c k : Nat} {z : Int} (hk : k ≤ c) (hzk : z = (k : Int)) :
    ∀ W, (Instr.slice t (.slice (some ⟨b, o, none⟩) n c) none (some (.int .i64 z)) none).run P W = .ok (.slice (some ⟨b, o, none⟩) k c) W := fun W => by
  subst hzk
  have ht' : P.underlying t = some (.slice (P.elem t)) := by simp [Program.elem, ht]
  have he : P.elem t = e := by simp [Program.elem, ht]
  rw [run_slice_h W t _ _ _ ht' .i64 _ (by omega) (by omega), he, hz]
  simp [Result.andThen, sliced, Addr.add]
/-- What is drawn: a number of ports, and frames. -/
def HopsC (w w' : World) (e : Ending) : Prop := ∃ ports A' n' c' hs, e = .returned (.tuple #[.int .i64 ports, .slice A' n' c']) ∧ HasH w' A' n' hs ∧ TinyH hs ∧ n' ≤ 20 ∧ n' ≤ c' ∧ (0 ≤ ports ∧ ports ≤ 7) ∧ Below w.heap.size w w'

set_option maxHeartbeats 4000000 in
theorem drawRunBridge_c {A : Option Addr} {n c : Nat} {zs : List Int} {w : World} (h : Has w A n (ints .u8 zs)) (hu : U8s zs) (hc : n ≤ c ∧ c ≤ maxLen) :
    Calls Try.prog 27 #[.slice A n c] w fun e w' => HopsC w w' e := by
  obtain ⟨i0, hi, hz0, hz1, hz2⟩ := info_parts3 Try.infoHop
  go_enter Try.func27, Try.ntmps27
  go_wp2_with (fail)
  refine (open_any h hu hc).mono ?_
  rintro e w1 ⟨r, rfl, R1, B1⟩
  have hrl := R1.lt
  have s1 := B1.size
  go_wp2_with (fail)
  refine (num_any (n := 10) (l := [3, 4, 2, 6, 1, 3, 4, 2, 0, 7]) (R1.alloc _) (by omega) (Has.row #[.int .i64 3, .int .i64 4, .int .i64 2, .int .i64 6, .int .i64 1, .int .i64 3, .int .i64 4, .int .i64 2, .int .i64 0, .int .i64 7] rfl rfl (by unfold maxLen; omega)) (fun ad ha => by injection ha with ha; subst ha; simp; omega) (by omega) (by omega)).mono ?_
  rintro e w2 ⟨ports, rfl, hv, R2, G2⟩
  have hpo : 0 ≤ ports ∧ ports ≤ 7 := by simp at hv; omega
  clear hv
  have G2' := gr_alloc G2
  have s2 := G2'.size
  have hr2 := R2.lt
  clear G2
  have O3 : OwnH (w2.alloc (.cells #[] 33)) w1.heap.size (some ⟨w2.heap.size, 0, none⟩) 0 0 [] := World.ownsRow_lit w2 #[] 0 s2 (by unfold maxLen; omega) rfl
  have R3 := R2.alloc (.cells #[] 33)
  have G3 := gr_bel G2' ((Below.refl _ _).alloc (Nat.le_refl _) (.cells #[] 33))
  go_wp2_with (fail)
  refine (num_any (n := 5) (l := [5, 9, 2, 0, 20]) (R3.alloc _) (by omega) (Has.rowAt #[.int .i64 5, .int .i64 9, .int .i64 2, .int .i64 0, .int .i64 20] rfl rfl (by decide) _ (by simp)) (fun ad ha => by injection ha with ha; subst ha; simp; omega) (by omega) (by omega)).mono ?_
  rintro e w4 ⟨v, rfl, hv, R4, G4⟩
  have hvb : 0 ≤ v ∧ v ≤ 20 := by simp at hv; omega
  obtain ⟨k0, rfl⟩ := Int.eq_ofNat_of_zero_le hvb.1
  have hk0 : k0 ≤ 20 := by omega
  clear hv hvb
  have G4' := gr_alloc G4
  have O4 : OwnH w4 w1.heap.size (some ⟨w2.heap.size, 0, none⟩) 0 0 [] := World.ownsRow.kept O3 G4' (.inr (by simp [Value.ownBlock]; omega))
  have G14 := gr_trans G3 G4'
  have s4 := G14.size
  clear O3 R3 G3 G4 G4' G2'
  go_wp2
  go_loopw [6, 7] (fun v i wr => ∃ (k : Nat) (A' : Option Addr) (m c' : Nat) (hs : List Hop3) (p' : Nat), k + m ≤ 20 ∧ i = .int .i64 (k : Int) ∧ v = .slice A' m c' ∧ OwnH wr w1.heap.size A' m c' hs ∧ TinyH hs ∧ p' ≤ 10 + 20 * m ∧ Rd wr w.heap.size r p' ∧ w1.grownBy wr (some r)) (fun _ i _ => (intOf i).toNat)
  case atStart => exact ⟨k0, _, 0, _, [], 0 + 1 + 1, by omega, rfl, rfl, O4, tinyH_nil, by omega, R4, G14⟩
  case round =>
    obtain ⟨k, A5, m, c5, hs, p5, hkm, rfl, rfl, O5, T5, hp5, R5, G5⟩ := hrel
    have s5 := G5.size
    by_cases hk : 0 < k
    · have hkB : decide ((k : Int) > 0) = true := by simp; omega
      have hkC : decide (0 < (k : Int)) = true := by simp; omega
      go_wp2_with (fail)
      refine (l6Hop_any R5 (by omega) hpo).mono ?_
      rintro e w6 h6
      unfold HopR at h6
      obtain ⟨f, t, q, p6, rfl, fb, tb, qb, hp6, R6, G6⟩ := h6
      have s6 := G6.size
      have O6 : OwnH w6 w1.heap.size A5 m c5 hs := World.ownsRow.kept O5 G6 (by
        cases A5 with
        | none => exact .inl rfl
        | some a => exact .inr (by have := World.ownsRow.lt O5 a.block rfl; simp [Value.ownBlock]; omega))
      have G16 := gr_trans G5 G6
      have O6a : (w6.alloc (.cells #[.int .i64 f, .int .i64 t, .int .i64 q] 33)).ownsRow w1.heap.size 33 3 (.slice A5 m c5) m (flat3 hs) := World.ownsRow.alloc O6 _
      go_wp2_with (at_builtin; refine wpList_append_lies (w6.alloc (.cells #[.int .i64 f, .int .i64 t, .int .i64 q] 33)) rfl (.tmp 21) (.tmp 25) 38 rfl w1.heap.size 33 i0 (.agg #[.int .i64 0, .int .i64 0, .int .i64 0]) 3 24 Try.underlying38 hi hz0 hz1 hz2 rfl (by decide) (.slice A5 m c5) m (flat3 hs) rfl O6a ⟨w6.heap.size, 0, none⟩ 1 1 (#[Value.int .i64 f, Value.int .i64 t, Value.int .i64 q] : Array Value).toList rfl rfl (World.news_of_block (heap_alloc_new w6 _)) (by simp [Value.oneCell']) (by decide) (by unfold maxLen; omega) (by omega) (by simp; omega) _ rfl ?_; intro g7 c7 w7 O7 G7 at7 _)
      have e7 : flat3 hs ++ (#[Value.int .i64 f, Value.int .i64 t, Value.int .i64 q] : Array Value).toList = flat3 (hs ++ [(f, t, q)]) := by rw [flat3_app]; rfl
      rw [e7] at O7
      have T7 := T5.snoc (x := (f, t, q)) ⟨fb, tb, qb⟩
      have hb7 : ∀ x, (Value.slice A5 m c5).ownBlock = some x → w1.heap.size ≤ x := fun x hx => (World.ownsRow.lt O5 x hx).1
      have R6a := R6.alloc (.cells #[.int .i64 f, .int .i64 t, .int .i64 q] 33)
      have R7 := R6a.grown G7 (fun x hx => by have := hb7 x hx; have := R6.1; exact ⟨by omega, by omega⟩)
      have G17 := gr_new (gr_bel G16 ((Below.refl _ _).alloc (Nat.le_refl _) _)) G7 hb7
      clear O6a O6 G7 at7 R6a e7 hb7 G16
      go_roundw
      case rel => exact ⟨k - 1, _, m + 1, _, hs ++ [(f, t, q)], _, by omega, by go_num, rfl, O7, T7, by omega, R7, G17⟩
      case measure => simp [intOf]; omega
    · have hkB : decide ((k : Int) > 0) = false := by simp; omega
      have hkC : decide (0 < (k : Int)) = false := by simp; omega
      obtain rfl : k = 0 := by omega
      have C5 := bel_read B1 R1 G5
      go_wp2
      go_ret2
      exact ⟨ports, _, _, _, hs, rfl, O5.has, T5, by omega, O5.cap, hpo, C5⟩

/-- What stands at the front of a run. -/
theorem run_split {ports : Int} {t : List Int} {us bs : List Hop3} {rr : List Int × List (List Int)} (h : runTo ports t (us ++ bs) = some rr) : ∃ r os, runTo ports t us = some r ∧ rr.2 = r.2 ++ os := by
  induction bs generalizing us with
  | nil => exact ⟨rr, [], by rwa [List.append_nil] at h, by simp⟩
  | cons b bs ih =>
    have e : us ++ b :: bs = (us ++ [b]) ++ bs := by simp
    rw [e] at h
    obtain ⟨r1, os1, h1, h2⟩ := ih h
    rw [runTo_snoc] at h1
    cases hr : runTo ports t us with
    | none => rw [hr] at h1; cases h1
    | some r =>
      rw [hr] at h1
      simp only [Option.bind_some] at h1
      split at h1
      · injection h1 with h1
        subst h1
        exact ⟨r, _, rfl, by rw [h2, List.append_assoc]⟩
      · cases h1
theorem run_at {ports : Int} {hs : List Hop3} {rr : List Int × List (List Int)} {k : Nat} {x : Hop3} (hok : runOk ports hs) (h : runTo ports freshL hs = some rr) (hx : hs[k]? = some x) :
    ∃ r : List Int × List (List Int), tOk r.1 ports ∧ stepOk r.1 ports x ∧ runT ports (hs.take k) = r.1 ∧ runB ports (hs.take k) = true ∧ runT ports (hs.take (k + 1)) = stepL r.1 ports x ∧ runB ports (hs.take (k + 1)) = true ∧ rr.2[k]? = some (outsL r.1 ports x) := by
  have e : hs = hs.take (k + 1) ++ hs.drop (k + 1) := (List.take_append_drop (k + 1) hs).symm
  rw [e] at h
  obtain ⟨r1, os, h1, h2⟩ := run_split h
  have h1' := h1
  rw [take_snoc hx, runTo_snoc] at h1
  have hkl := (List.getElem?_eq_some_iff.1 hx).1
  have o1 : runOk ports (hs.take k) := ⟨hok.1, by rw [List.length_take]; have := hok.2; omega⟩
  have o2 : runOk ports (hs.take (k + 1)) := ⟨hok.1, by rw [List.length_take]; have := hok.2; omega⟩
  cases hr : runTo ports freshL (hs.take k) with
  | none => rw [hr] at h1; cases h1
  | some r =>
    rw [hr] at h1
    simp only [Option.bind_some] at h1
    obtain ⟨t1, t2, _⟩ := runTo_ok (fresh_ok hok.1) hr
    split at h1
    · rename_i hst
      injection h1 with h1
      subst h1
      have f1 : runR ports (hs.take k) = some r := by unfold runR; rw [if_pos o1]; exact hr
      have f2 := (show runR ports (hs.take (k + 1)) = runTo ports freshL (hs.take (k + 1)) by unfold runR; rw [if_pos o2]).trans h1'
      refine ⟨r, t1, hst, by unfold runT; rw [f1]; rfl, by unfold runB; rw [f1]; rfl, by unfold runT stepL; rw [f2, if_pos hst]; rfl, by unfold runB; rw [f2]; rfl, ?_⟩
      rw [h2]
      have hl : r.2.length = k := by rw [t2, List.length_take]; omega
      rw [List.append_assoc, List.getElem?_append_right (by omega), hl, Nat.sub_self]
      unfold outsL
      rw [if_pos hst]
      rfl
    · cases h1
end Go.Proofs.Ytmnhgghnaklneaa
