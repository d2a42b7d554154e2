/-
  Chapter 10's plain functions of the model: what is proved here is what VPortsValid, VlanIn, TagOut, PortsOn, MeetIn and ApartFrom return, and that they write nothing that was there. Condition: lengths up to 2^24.
-/
import Derived.Test.YtiokieancjigeaaVlanA
namespace Go.Proofs.Ytiokieancjigeaa
open Go.RowKit

theorem lit_own (w : World) : Own (w.alloc (.cells #[] 3)) w.heap.size 3 (some ⟨w.heap.size, 0, none⟩) 0 0 (ints .i64 []) := World.ownsRow_lit w #[] 0 (Nat.le_refl _) (by unfold maxLen; omega) rfl
def LenP (ps : List Port) : Prop := ∀ p ∈ ps, p.2.2.length ≤ 16777216
theorem LenP.at_ {ps : List Port} (h : LenP ps) {i : Nat} {k q : Int} {l : List Int} {w : World} {B : Option Addr} {m : Nat} (hx : ps[i]? = some (k, q, l)) (hH : Has w B m (ints .i64 l)) : m ≤ 16777216 := by
  have h1 := h _ (List.mem_of_getElem? hx)
  have h2 := hH.len
  have h3 : l.length ≤ 16777216 := h1
  omega
theorem heap_belP {w w' : World} (h : Below w.heap.size w w') {B : Nat} {o : Obj} (hB : w.heap[B]? = some o) : w'.heap[B]? = some o := (h.block B (Array.getElem?_eq_some_iff.1 hB).1).trans hB

set_option maxHeartbeats 2000000 in
theorem specVlanIn_r {B : Option Addr} {m d : Nat} {x q t : Int} {l : List Int} {w : World} {r : Int} (h : Has w B m (ints .i64 l)) (hm : m ≤ 16777216) (hr : inI (x, q, l) t = r) :
    Calls Try.prog 20 #[.agg #[.int .i64 x, .int .i64 q, .slice B m d], .int .i64 t] w fun e w' => e = .returned (.int .i64 r) ∧ Below w.heap.size w w' := by
  have HR := Lib.hid hr
  clear hr
  obtain ⟨W, hW⟩ : ∃ W, w.alloc (.cells #[.int .i64 x, .int .i64 q, .slice B m d] 25) = W := ⟨_, rfl⟩
  have BA : Below w.heap.size w W := by rw [← hW]; exact below_allocP w _
  have hWn : W.heap[w.heap.size]? = some (.cells #[.int .i64 x, .int .i64 q, .slice B m d] 25 (0, 0)) := by rw [← hW]; exact heap_alloc_new w _
  obtain ⟨c0, c1, c2⟩ := cells3K hWn
  have hW2 := h.bel BA
  by_cases hp : pOk (x, q, l)
  rotate_left
  · have C := Lib.hid (l10Port_b (d := d) hW2 hm (decide_eq_false hp))
    have HE := Lib.hid (in_no hp t)
    clear hp hWn
    go_enter Try.func20, Try.ntmps20
    go_wp2_with (fail)
    refine C.out.mono ?_
    rintro e w1 ⟨rfl, B1⟩
    go_wp2
    go_ret
    exact ⟨ret_int (HE.out.symm.trans HR.out), bel_trans BA B1⟩
  have C := Lib.hid (l10Port_b (d := d) hW2 hm (decide_eq_true hp))
  by_cases ht : t = 0
  · have tB : (t == 0) = true := by simp [ht]
    have HE := Lib.hid (show inI (x, q, l) t = q by unfold inI; rw [if_pos hp, if_pos ht])
    clear hp ht
    go_enter Try.func20, Try.ntmps20
    go_wp2_with (fail)
    refine C.out.mono ?_
    rintro e w1 ⟨rfl, B1⟩
    obtain ⟨d0, d1, d2⟩ := cells3K (heap_belP B1 hWn)
    go_wp2
    go_ret
    exact ⟨ret_int (HE.out.symm.trans HR.out), bel_trans BA B1⟩
  have tB : (t == 0) = false := by simp [ht]
  by_cases hc : t ∈ l
  · have HE := Lib.hid (show inI (x, q, l) t = t by unfold inI; rw [if_pos hp, if_neg ht, if_pos hc])
    have HC := Lib.hid (decide_eq_true hc)
    clear hp ht hc
    go_enter Try.func20, Try.ntmps20
    go_wp2_with (fail)
    refine C.out.mono ?_
    rintro e w1 ⟨rfl, B1⟩
    obtain ⟨d0, d1, d2⟩ := cells3K (heap_belP B1 hWn)
    go_wp2_with (fail)
    refine (l10Has_b (hW2.bel B1) hm HC.out).mono ?_
    rintro e w' ⟨rfl, rfl⟩
    go_wp2
    go_ret
    exact ⟨ret_int (HE.out.symm.trans HR.out), bel_trans BA B1⟩
  · have HE := Lib.hid (show inI (x, q, l) t = -1 by unfold inI; rw [if_pos hp, if_neg ht, if_neg hc])
    have HC := Lib.hid (decide_eq_false hc)
    clear hp ht hc
    go_enter Try.func20, Try.ntmps20
    go_wp2_with (fail)
    refine C.out.mono ?_
    rintro e w1 ⟨rfl, B1⟩
    obtain ⟨d0, d1, d2⟩ := cells3K (heap_belP B1 hWn)
    go_wp2_with (fail)
    refine (l10Has_b (hW2.bel B1) hm HC.out).mono ?_
    rintro e w' ⟨rfl, rfl⟩
    go_wp2
    go_ret
    exact ⟨ret_int (HE.out.symm.trans HR.out), bel_trans BA B1⟩

set_option maxHeartbeats 2000000 in
theorem specTagOut_r {B : Option Addr} {m d : Nat} {x q t : Int} {l : List Int} {w : World} {r : Int} (h : Has w B m (ints .i64 l)) (hm : m ≤ 16777216) (hr : outI (x, q, l) t = r) :
    Calls Try.prog 17 #[.agg #[.int .i64 x, .int .i64 q, .slice B m d], .int .i64 t] w fun e w' => e = .returned (.int .i64 r) ∧ Below w.heap.size w w' := by
  have HR := Lib.hid hr
  clear hr
  obtain ⟨W, hW⟩ : ∃ W, w.alloc (.cells #[.int .i64 x, .int .i64 q, .slice B m d] 25) = W := ⟨_, rfl⟩
  have BA : Below w.heap.size w W := by rw [← hW]; exact below_allocP w _
  have hWn : W.heap[w.heap.size]? = some (.cells #[.int .i64 x, .int .i64 q, .slice B m d] 25 (0, 0)) := by rw [← hW]; exact heap_alloc_new w _
  obtain ⟨c0, c1, c2⟩ := cells3K hWn
  have hW2 := h.bel BA
  by_cases hp : pOk (x, q, l)
  rotate_left
  · have C := Lib.hid (l10Port_b (d := d) hW2 hm (decide_eq_false hp))
    have HE := Lib.hid (out_no hp t)
    clear hp hWn
    go_enter Try.func17, Try.ntmps17
    go_wp2_with (fail)
    refine C.out.mono ?_
    rintro e w1 ⟨rfl, B1⟩
    go_wp2
    go_ret
    exact ⟨ret_int (HE.out.symm.trans HR.out), bel_trans BA B1⟩
  have C := Lib.hid (l10Port_b (d := d) hW2 hm (decide_eq_true hp))
  by_cases ht : t = q
  · have tB : (t == q) = true := by simp [ht]
    have HE := Lib.hid (show outI (x, q, l) t = 0 by unfold outI; rw [if_pos hp, if_pos ht])
    clear hp ht
    go_enter Try.func17, Try.ntmps17
    go_wp2_with (fail)
    refine C.out.mono ?_
    rintro e w1 ⟨rfl, B1⟩
    obtain ⟨d0, d1, d2⟩ := cells3K (heap_belP B1 hWn)
    go_wp2
    go_ret
    exact ⟨ret_int (HE.out.symm.trans HR.out), bel_trans BA B1⟩
  have tB : (t == q) = false := by simp [ht]
  by_cases hc : t ∈ l
  · have HE := Lib.hid (show outI (x, q, l) t = t by unfold outI; rw [if_pos hp, if_neg ht, if_pos hc])
    have HC := Lib.hid (decide_eq_true hc)
    clear hp ht hc
    go_enter Try.func17, Try.ntmps17
    go_wp2_with (fail)
    refine C.out.mono ?_
    rintro e w1 ⟨rfl, B1⟩
    obtain ⟨d0, d1, d2⟩ := cells3K (heap_belP B1 hWn)
    go_wp2_with (fail)
    refine (l10Has_b (hW2.bel B1) hm HC.out).mono ?_
    rintro e w' ⟨rfl, rfl⟩
    go_wp2
    go_ret
    exact ⟨ret_int (HE.out.symm.trans HR.out), bel_trans BA B1⟩
  · have HE := Lib.hid (show outI (x, q, l) t = -1 by unfold outI; rw [if_pos hp, if_neg ht, if_neg hc])
    have HC := Lib.hid (decide_eq_false hc)
    clear hp ht hc
    go_enter Try.func17, Try.ntmps17
    go_wp2_with (fail)
    refine C.out.mono ?_
    rintro e w1 ⟨rfl, B1⟩
    obtain ⟨d0, d1, d2⟩ := cells3K (heap_belP B1 hWn)
    go_wp2_with (fail)
    refine (l10Has_b (hW2.bel B1) hm HC.out).mono ?_
    rintro e w' ⟨rfl, rfl⟩
    go_wp2
    go_ret
    exact ⟨ret_int (HE.out.symm.trans HR.out), bel_trans BA B1⟩

theorem psOk_no {ps : List Port} {p : Port} (hp : p ∈ ps) (h : ¬ pOk p) : decide (psOk ps) = false := decide_eq_false fun hh => h (hh.1 p hp)
set_option maxHeartbeats 2000000 in
theorem specVPortsValid_b {A : Option Addr} {n c : Nat} {ps : List Port} {w : World} {b : Bool} (h : HasP w A n ps) (hn : n ≤ 16777216) (hl : LenP ps) (hb : decide (psOk ps) = b) :
    Calls Try.prog 25 #[.slice A n c] w fun e w' => e = .returned (.bool b) ∧ Below w.heap.size w w' := by
  have HL := Lib.hid h.1
  have HB := Lib.hid hb
  clear hb
  go_enter Try.func25, Try.ntmps25
  go_wp2
  go_loopw [3] (fun i wr => ∃ k : Nat, k ≤ n ∧ i = .int .i64 (k : Int) ∧ Hid (∀ p ∈ ps.take k, pOk p) ∧ Below w.heap.size w wr) (fun i _ => n - (intOf i).toNat)
  case atStart => exact ⟨0, Nat.zero_le _, rfl, Lib.hid (fun v hv => by simp at hv), Below.refl _ _⟩
  case round =>
    obtain ⟨k, hk, rfl, HS, BW⟩ := hrel
    by_cases hlt : k < n
    · have hltB : decide ((k : Int) < (n : Int)) = true := by simp; omega
      obtain ⟨b', o, B, m, d, x, q, l, rfl, hbl, hx, c0, c1, c2, hmd, hH⟩ := (h.bel BW).at_ hlt
      have hm := hl.at_ hx hH
      have HX := Lib.hid hx
      clear hx
      have i0 : (0 : Int) ≤ (k : Int) := by omega
      have i1 : (k : Int) < (n : Int) := by omega
      by_cases hp : pOk (x, q, l)
      · have C := Lib.hid (l10Port_b (d := d) hH hm (decide_eq_true hp))
        have HS2 : Hid (∀ p ∈ ps.take (k + 1), pOk p) := by
          have : ∀ p ∈ ps.take (k + 1), pOk p := by
            intro p hpm
            rw [List.take_add_one, HX.out] at hpm
            rcases List.mem_append.1 hpm with hpm | hpm
            · exact HS.out p hpm
            · simp at hpm; subst hpm; exact hp
          exact this
        clear hp
        go_wp2_with (fail)
        refine C.out.mono ?_
        rintro e w1 ⟨rfl, B1⟩
        go_wp2
        go_roundw
        case rel => exact ⟨k + 1, by omega, by go_num, HS2, BW.trans (B1.mono BW.size)⟩
        case measure => simp [intOf]; omega
      · have C := Lib.hid (l10Port_b (d := d) hH hm (decide_eq_false hp))
        have HE := Lib.hid (psOk_no (List.mem_of_getElem? HX.out) hp)
        clear hp
        go_wp2_with (fail)
        refine C.out.mono ?_
        rintro e w1 ⟨rfl, B1⟩
        go_wp2
        go_ret
        exact ⟨ret_bool (HE.out.symm.trans HB.out), BW.trans (B1.mono BW.size)⟩
    · have hltB : decide ((k : Int) < (n : Int)) = false := by simp; omega
      obtain rfl : k = n := by omega
      have HA : Hid (∀ p ∈ ps, pOk p) := by
        have h1 := HS.out
        have h2 := HL.out
        rw [List.take_of_length_le (by omega)] at h1
        exact h1
      by_cases h6 : (1 : Int) ≤ (k : Int) ∧ (k : Int) ≤ 6
      · have C := Lib.hid (l1In_yes (k : Int) 1 6 wr h6.1 h6.2)
        have HE := Lib.hid (show decide (psOk ps) = true from decide_eq_true ⟨HA.out, by have := HL.out; omega, by have := HL.out; omega⟩)
        clear h6
        go_wp2_with (fail)
        refine C.out.mono ?_
        rintro e w1 ⟨rfl, rfl⟩
        go_wp2
        go_ret
        exact ⟨ret_bool (HE.out.symm.trans HB.out), BW⟩
      · have C := Lib.hid (l1In_no (k : Int) 1 6 wr h6)
        have HE := Lib.hid (show decide (psOk ps) = false from decide_eq_false fun hh => h6 (by have h1 := hh.2; have h2 := HL.out; omega))
        clear h6
        go_wp2_with (fail)
        refine C.out.mono ?_
        rintro e w1 ⟨rfl, rfl⟩
        go_wp2
        go_ret
        exact ⟨ret_bool (HE.out.symm.trans HB.out), BW⟩

theorem onI_no {ps : List Port} {v : Int} (h : ¬ psOk ps) : onI ps v = [] := by unfold onI; rw [if_neg h]
theorem onI_yes {ps : List Port} {v : Int} (h : psOk ps) : onI ps v = (outsTo ps v ps.length).map (·.1) := by unfold onI; rw [if_pos h]
theorem outs_succ (ps : List Port) (v : Int) (k : Nat) : outsTo ps v (k + 1) = outsTo ps v k ++ (if 0 ≤ outI (dp ps k) v then [((k : Int), outI (dp ps k) v)] else []) := rfl
theorem outs_step_in {ps : List Port} {v : Int} {k : Nat} {p : Port} (hp : ps[k]? = some p) (h : 0 ≤ outI p v) : (outsTo ps v (k + 1)).map (·.1) = (outsTo ps v k).map (·.1) ++ [(k : Int)] := by
  rw [outs_succ, dp_at hp, if_pos h, List.map_append]; rfl
theorem outs_step_out {ps : List Port} {v : Int} {k : Nat} {p : Port} (hp : ps[k]? = some p) (h : ¬ 0 ≤ outI p v) : outsTo ps v (k + 1) = outsTo ps v k := by
  rw [outs_succ, dp_at hp, if_neg h, List.append_nil]
set_option maxHeartbeats 4000000 in
theorem specPortsOn_r {A : Option Addr} {n c : Nat} {ps : List Port} {v : Int} {w : World} {r : List Int} (h : HasP w A n ps) (hn : n ≤ 16777216) (hl : LenP ps) (hr : onI ps v = r) :
    Calls Try.prog 38 #[.slice A n c, .int .i64 v] w fun e w' => ∃ A' n' c', e = .returned (.slice A' n' c') ∧ Own w' w.heap.size 3 A' n' c' (ints .i64 r) ∧ Below w.heap.size w w' := by
  obtain ⟨i0, hi, hz0, hz1, hz2⟩ := info_parts Try.infoInt
  have HL := Lib.hid h.1
  have HR := Lib.hid hr
  clear hr
  have O0 := lit_own w
  have B0 := below_allocP w (.cells #[] 3)
  by_cases hok : psOk ps
  · have hn6 : 1 ≤ n ∧ n ≤ 6 := by have h1 := hok.2; have h2 := HL.out; omega
    have HOK := Lib.hid hok
    clear hok
    go_enter Try.func38, Try.ntmps38
    go_wp2
    go_loopw [5, 6] (fun o i wr => ∃ (k q : Nat) (A' : Option Addr) (c' : Nat), k ≤ n ∧ i = .int .i64 (k : Int) ∧ o = .slice A' q c' ∧ q ≤ k ∧ Own wr w.heap.size 3 A' q c' (ints .i64 ((outsTo ps v k).map (·.1))) ∧ Below w.heap.size w wr) (fun _ i _ => n - (intOf i).toNat)
    case atStart => exact ⟨0, 0, _, _, Nat.zero_le _, rfl, rfl, Nat.le_refl _, O0, B0⟩
    case round =>
      obtain ⟨k, j, A1, c1, hk, rfl, rfl, hj, O1, BW⟩ := hrel
      have hge := BW.size
      by_cases hlt : k < n
      · have hltB : decide ((k : Int) < (n : Int)) = true := by simp; omega
        have i0' : (0 : Int) ≤ (k : Int) := by omega
        have i1' : (k : Int) < (n : Int) := by omega
        have CV := Lib.hid (specVPortsValid_b (c := c) (h.bel BW) hn hl (decide_eq_true HOK.out))
        go_wp2_with (fail)
        refine CV.out.mono ?_
        rintro e w1 ⟨rfl, B1⟩
        have BW1 := BW.trans (B1.mono hge)
        have O1' := O1.bel B1
        obtain ⟨b', o, B, m, d, x, q, l, rfl, hbl, hx, d0, d1, d2, hmd, hH⟩ := (h.bel BW1).at_ hlt
        have hm := hl.at_ hx hH
        by_cases hp : 0 ≤ outI (x, q, l) v
        · obtain ⟨t, ht⟩ : ∃ t, outI (x, q, l) v = t := ⟨_, rfl⟩
          have tB : decide (t ≥ 0) = true := by simp; omega
          have tC : decide (0 ≤ t) = true := by simp; omega
          have HS := Lib.hid (outs_step_in hx hp)
          have C := Lib.hid (specTagOut_r (d := d) hH hm ht)
          clear hp hx ht
          go_wp2_with (fail)
          refine C.out.mono ?_
          rintro e w2 ⟨rfl, B2⟩
          have BW2 := BW1.trans (B2.mono BW1.size)
          have s2 := BW2.size
          have O2 := O1'.bel B2
          go_wp2_with (at_builtin; refine wpList_apps _ rfl (.tmp 25) (.tmp 27) 23 rfl w.heap.size 3 i0 (.int .i64 0) 8 Try.underlying23 hi hz0 hz1 hz2 rfl A1 j c1 _ rfl O2 1 1 #[.int .i64 (k : Int)] rfl rfl (by simp [Value.oneCell']) (by decide) (by omega) (by decide) s2 ?_; intro g3 c3 w3 O3 G3 B3 _)
          go_roundw
          case rel => exact ⟨k + 1, j + 1, _, _, by omega, by go_num, rfl, by omega, by rw [HS.out, ints_app]; exact O3, BW2.trans B3⟩
          case measure => simp [intOf]; omega
        · obtain ⟨t, ht⟩ : ∃ t, outI (x, q, l) v = t := ⟨_, rfl⟩
          have tB : decide (t ≥ 0) = false := by simp; omega
          have tC : decide (0 ≤ t) = false := by simp; omega
          have HS := Lib.hid (outs_step_out hx hp)
          have C := Lib.hid (specTagOut_r (d := d) hH hm ht)
          clear hp hx ht
          go_wp2_with (fail)
          refine C.out.mono ?_
          rintro e w2 ⟨rfl, B2⟩
          have BW2 := BW1.trans (B2.mono BW1.size)
          have O2 := O1'.bel B2
          go_wp2
          go_roundw
          case rel => exact ⟨k + 1, j, _, _, by omega, by go_num, rfl, by omega, by rw [HS.out]; exact O2, BW2⟩
          case measure => simp [intOf]; omega
      · have hltB : decide ((k : Int) < (n : Int)) = false := by simp; omega
        obtain rfl : k = n := by omega
        go_wp2
        go_ret
        refine ⟨_, _, _, rfl, ?_, BW⟩
        rw [← HR.out, onI_yes HOK.out, HL.out]
        exact O1
  · have HE := Lib.hid (onI_no (v := v) hok)
    have CV := Lib.hid (specVPortsValid_b (c := c) (h.bel B0) hn hl (decide_eq_false hok))
    clear hok
    by_cases h0 : n = 0
    · subst h0
      have lB : decide ((0 : Int) < ((0 : Nat) : Int)) = false := rfl
      have lC : decide ((0 : Int) < 0) = false := rfl
      go_enter Try.func38, Try.ntmps38
      go_wp2
      go_loopw [5, 6] (fun o i wr => o = .slice (some ⟨w.heap.size, 0, none⟩) 0 0 ∧ i = .int .i64 0 ∧ wr = w.alloc (.cells #[] 3)) (fun _ _ _ => 0)
      case atStart => exact ⟨rfl, rfl, rfl⟩
      case round =>
        obtain ⟨rfl, rfl, rfl⟩ := hrel
        go_wp2
        go_ret
        exact ⟨_, _, _, rfl, by rw [← HR.out, HE.out]; exact O0, B0⟩
    · have lB : decide ((0 : Int) < (n : Int)) = true := by simp; omega
      have lC : decide (0 < n) = true := by simp; omega
      clear h0
      go_enter Try.func38, Try.ntmps38
      go_wp2
      go_loopw [5, 6] (fun o i wr => o = .slice (some ⟨w.heap.size, 0, none⟩) 0 0 ∧ i = .int .i64 0 ∧ wr = w.alloc (.cells #[] 3)) (fun _ _ _ => 0)
      case atStart => exact ⟨rfl, rfl, rfl⟩
      case round =>
        obtain ⟨rfl, rfl, rfl⟩ := hrel
        go_wp2_with (fail)
        refine CV.out.mono ?_
        rintro e w1 ⟨rfl, B1⟩
        go_wp2
        go_ret
        exact ⟨_, _, _, rfl, by rw [← HR.out, HE.out]; exact O0.bel B1, bel_trans B0 B1⟩
end Go.Proofs.Ytiokieancjigeaa
