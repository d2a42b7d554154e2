/-
  Chapter 10's plain functions of the model: what is proved here is what VPortsValid, VlanIn, TagOut, PortsOn, MeetIn and ApartFrom return, and that they write nothing that was there. Condition: lengths up to 2^24.
-/
import Derived.Test.YtiokieancjigeaaDoorVlanA
namespace Go.Proofs.YtiokieancjigeaaDoor
open Go.RowKit

theorem lit_own (w : World) : Own (w.alloc (.cells #[] 3)) w.heap.size 3 (some ⟨w.heap.size, 0, none⟩) 0 0 (ints .i64 []) := World.ownsRow_lit w #[] 0 (Nat.le_refl _) (by unfold maxLen; omega) rfl
def LenP (ps : List Port) : Prop := ∀ p ∈ ps, p.2.2.length ≤ 16777216
theorem LenP.at_ {ps : List Port} (h : LenP ps) {i : Nat} {k q : Int} {l : List Int} {w : World} {B : Option Addr} {m : Nat} (hx : ps[i]? = some (k, q, l)) (hH : Has w B m (ints .i64 l)) : m ≤ 16777216 := by
  have h1 := h _ (List.mem_of_getElem? hx)
  have h2 := hH.len
  have h3 : l.length ≤ 16777216 := h1
  omega
theorem heap_belP {w w' : World} (h : Below w.heap.size w w') {B : Nat} {o : Obj} (hB : w.heap[B]? = some o) : w'.heap[B]? = some o := (h.block B (Array.getElem?_eq_some_iff.1 hB).1).trans hB


set_option maxHeartbeats 2000000 in
theorem specTagOut_r {B : Option Addr} {m d : Nat} {x q t : Int} {l : List Int} {w : World} {r : Int} (h : Has w B m (ints .i64 l)) (hm : m ≤ 16777216) (hr : outI (x, q, l) t = r) :
    Calls Tryd.prog 30 #[.agg #[.int .i64 x, .int .i64 q, .slice B m d], .int .i64 t] w fun e w' => e = .returned (.int .i64 r) ∧ Below w.heap.size w w' := by
  have HR := Lib.hid hr
  clear hr
  obtain ⟨W, hW⟩ : ∃ W, w.alloc (.cells #[.int .i64 x, .int .i64 q, .slice B m d] 32) = W := ⟨_, rfl⟩
  have BA : Below w.heap.size w W := by rw [← hW]; exact below_allocP w _
  have hWn : W.heap[w.heap.size]? = some (.cells #[.int .i64 x, .int .i64 q, .slice B m d] 32 (0, 0)) := by rw [← hW]; exact heap_alloc_new w _
  obtain ⟨c0, c1, c2⟩ := cells3K hWn
  have hW2 := h.bel BA
  by_cases hp : pOk (x, q, l)
  rotate_left
  · have C := Lib.hid (l10Port_b (d := d) hW2 hm (decide_eq_false hp))
    have HE := Lib.hid (out_no hp t)
    clear hp hWn
    go_enter Tryd.func30, Tryd.ntmps30
    go_wp2_with (fail)
    refine C.out.mono ?_
    rintro e w1 ⟨rfl, B1⟩
    go_wp2
    go_ret
    exact ⟨ret_int (HE.out.symm.trans HR.out), bel_trans BA B1⟩
  have C := Lib.hid (l10Port_b (d := d) hW2 hm (decide_eq_true hp))
  by_cases ht : t = q
  · have tB : (t == q) = true := by simp [ht]
    have HE := Lib.hid (show outI (x, q, l) t = 0 by unfold outI; rw [if_pos hp, if_pos ht])
    clear hp ht
    go_enter Tryd.func30, Tryd.ntmps30
    go_wp2_with (fail)
    refine C.out.mono ?_
    rintro e w1 ⟨rfl, B1⟩
    obtain ⟨d0, d1, d2⟩ := cells3K (heap_belP B1 hWn)
    go_wp2
    go_ret
    exact ⟨ret_int (HE.out.symm.trans HR.out), bel_trans BA B1⟩
  have tB : (t == q) = false := by simp [ht]
  by_cases hc : t ∈ l
  · have HE := Lib.hid (show outI (x, q, l) t = t by unfold outI; rw [if_pos hp, if_neg ht, if_pos hc])
    have HC := Lib.hid (decide_eq_true hc)
    clear hp ht hc
    go_enter Tryd.func30, Tryd.ntmps30
    go_wp2_with (fail)
    refine C.out.mono ?_
    rintro e w1 ⟨rfl, B1⟩
    obtain ⟨d0, d1, d2⟩ := cells3K (heap_belP B1 hWn)
    go_wp2_with (fail)
    refine (l10Has_b (hW2.bel B1) hm HC.out).mono ?_
    rintro e w' ⟨rfl, rfl⟩
    go_wp2
    go_ret
    exact ⟨ret_int (HE.out.symm.trans HR.out), bel_trans BA B1⟩
  · have HE := Lib.hid (show outI (x, q, l) t = -1 by unfold outI; rw [if_pos hp, if_neg ht, if_neg hc])
    have HC := Lib.hid (decide_eq_false hc)
    clear hp ht hc
    go_enter Tryd.func30, Tryd.ntmps30
    go_wp2_with (fail)
    refine C.out.mono ?_
    rintro e w1 ⟨rfl, B1⟩
    obtain ⟨d0, d1, d2⟩ := cells3K (heap_belP B1 hWn)
    go_wp2_with (fail)
    refine (l10Has_b (hW2.bel B1) hm HC.out).mono ?_
    rintro e w' ⟨rfl, rfl⟩
    go_wp2
    go_ret
    exact ⟨ret_int (HE.out.symm.trans HR.out), bel_trans BA B1⟩

theorem psOk_no {ps : List Port} {p : Port} (hp : p ∈ ps) (h : ¬ pOk p) : decide (psOk ps) = false := decide_eq_false fun hh => h (hh.1 p hp)
set_option maxHeartbeats 2000000 in
theorem specVPortsValid_b {A : Option Addr} {n c : Nat} {ps : List Port} {w : World} {b : Bool} (h : HasP w A n ps) (hn : n ≤ 16777216) (hl : LenP ps) (hb : decide (psOk ps) = b) :
    Calls Tryd.prog 28 #[.slice A n c] w fun e w' => e = .returned (.bool b) ∧ Below w.heap.size w w' := by
  have HL := Lib.hid h.1
  have HB := Lib.hid hb
  clear hb
  go_enter Tryd.func28, Tryd.ntmps28
  go_wp2
  go_loopw [3] (fun i wr => ∃ k : Nat, k ≤ n ∧ i = .int .i64 (k : Int) ∧ Hid (∀ p ∈ ps.take k, pOk p) ∧ Below w.heap.size w wr) (fun i _ => n - (intOf i).toNat)
  case atStart => exact ⟨0, Nat.zero_le _, rfl, Lib.hid (fun v hv => by simp at hv), Below.refl _ _⟩
  case round =>
    obtain ⟨k, hk, rfl, HS, BW⟩ := hrel
    by_cases hlt : k < n
    · have hltB : decide ((k : Int) < (n : Int)) = true := by simp; omega
      obtain ⟨b', o, B, m, d, x, q, l, rfl, hbl, hx, c0, c1, c2, hmd, hH⟩ := (h.bel BW).at_ hlt
      have hm := hl.at_ hx hH
      have HX := Lib.hid hx
      clear hx
      have i0 : (0 : Int) ≤ (k : Int) := by omega
      have i1 : (k : Int) < (n : Int) := by omega
      by_cases hp : pOk (x, q, l)
      · have C := Lib.hid (l10Port_b (d := d) hH hm (decide_eq_true hp))
        have HS2 : Hid (∀ p ∈ ps.take (k + 1), pOk p) := by
          have : ∀ p ∈ ps.take (k + 1), pOk p := by
            intro p hpm
            rw [List.take_add_one, HX.out] at hpm
            rcases List.mem_append.1 hpm with hpm | hpm
            · exact HS.out p hpm
            · simp at hpm; subst hpm; exact hp
          exact this
        clear hp
        go_wp2_with (fail)
        refine C.out.mono ?_
        rintro e w1 ⟨rfl, B1⟩
        go_wp2
        go_roundw
        case rel => exact ⟨k + 1, by omega, by go_num, HS2, BW.trans (B1.mono BW.size)⟩
        case measure => simp [intOf]; omega
      · have C := Lib.hid (l10Port_b (d := d) hH hm (decide_eq_false hp))
        have HE := Lib.hid (psOk_no (List.mem_of_getElem? HX.out) hp)
        clear hp
        go_wp2_with (fail)
        refine C.out.mono ?_
        rintro e w1 ⟨rfl, B1⟩
        go_wp2
        go_ret
        exact ⟨ret_bool (HE.out.symm.trans HB.out), BW.trans (B1.mono BW.size)⟩
    · have hltB : decide ((k : Int) < (n : Int)) = false := by simp; omega
      obtain rfl : k = n := by omega
      have HA : Hid (∀ p ∈ ps, pOk p) := by
        have h1 := HS.out
        have h2 := HL.out
        rw [List.take_of_length_le (by omega)] at h1
        exact h1
      by_cases h6 : (1 : Int) ≤ (k : Int) ∧ (k : Int) ≤ 6
      · have C := Lib.hid (l1In_yes (k : Int) 1 6 wr h6.1 h6.2)
        have HE := Lib.hid (show decide (psOk ps) = true from decide_eq_true ⟨HA.out, by have := HL.out; omega, by have := HL.out; omega⟩)
        clear h6
        go_wp2_with (fail)
        refine C.out.mono ?_
        rintro e w1 ⟨rfl, rfl⟩
        go_wp2
        go_ret
        exact ⟨ret_bool (HE.out.symm.trans HB.out), BW⟩
      · have C := Lib.hid (l1In_no (k : Int) 1 6 wr h6)
        have HE := Lib.hid (show decide (psOk ps) = false from decide_eq_false fun hh => h6 (by have h1 := hh.2; have h2 := HL.out; omega))
        clear h6
        go_wp2_with (fail)
        refine C.out.mono ?_
        rintro e w1 ⟨rfl, rfl⟩
        go_wp2
        go_ret
        exact ⟨ret_bool (HE.out.symm.trans HB.out), BW⟩

theorem onI_no {ps : List Port} {v : Int} (h : ¬ psOk ps) : onI ps v = [] := by unfold onI; rw [if_neg h]
theorem onI_yes {ps : List Port} {v : Int} (h : psOk ps) : onI ps v = (outsTo ps v ps.length).map (·.1) := by unfold onI; rw [if_pos h]
theorem outs_succ (ps : List Port) (v : Int) (k : Nat) : outsTo ps v (k + 1) = outsTo ps v k ++ (if 0 ≤ outI (dp ps k) v then [((k : Int), outI (dp ps k) v)] else []) := rfl
theorem outs_step_in {ps : List Port} {v : Int} {k : Nat} {p : Port} (hp : ps[k]? = some p) (h : 0 ≤ outI p v) : (outsTo ps v (k + 1)).map (·.1) = (outsTo ps v k).map (·.1) ++ [(k : Int)] := by
  rw [outs_succ, dp_at hp, if_pos h, List.map_append]; rfl
theorem outs_step_out {ps : List Port} {v : Int} {k : Nat} {p : Port} (hp : ps[k]? = some p) (h : ¬ 0 ≤ outI p v) : outsTo ps v (k + 1) = outsTo ps v k := by
  rw [outs_succ, dp_at hp, if_neg h, List.append_nil]
end Go.Proofs.YtiokieancjigeaaDoor
