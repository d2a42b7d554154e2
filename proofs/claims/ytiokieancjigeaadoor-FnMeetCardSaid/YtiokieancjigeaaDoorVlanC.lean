/-
  Chapter 10's plain functions of the model: what is proved here is what MeetIn and ApartFrom return, and that they write nothing that was there. Condition: lengths up to 2^24.
-/
import Derived.Test.YtiokieancjigeaaDoorVlanB
namespace Go.Proofs.YtiokieancjigeaaDoor
open Go.RowKit

theorem meet_succ (p q : Port) (k : Nat) : meetTo p q (k + 1) = meetTo p q k ++ (if bothB p q (k : Int) then [(k : Int)] else []) := rfl
theorem meet_one (p q : Port) : meetTo p q 1 = [] := by
  apply List.eq_nil_iff_forall_not_mem.2
  intro x hx
  obtain ⟨i, hi, rfl, hb⟩ := meet_mem.1 hx
  obtain rfl : i = 0 := by omega
  simp [bothB] at hb
  have := out_range hb.1
  omega
theorem meet_in {p q : Port} {k : Nat} (h1 : 0 ≤ outI p (k : Int)) (h2 : 0 ≤ outI q (k : Int)) : meetTo p q (k + 1) = meetTo p q k ++ [(k : Int)] := by
  rw [meet_succ, if_pos (by simp [bothB, h1, h2])]
theorem meet_out1 {p q : Port} {k : Nat} (h1 : ¬ 0 ≤ outI p (k : Int)) : meetTo p q (k + 1) = meetTo p q k := by
  rw [meet_succ, if_neg (by simp [bothB, h1]), List.append_nil]
theorem meet_out2 {p q : Port} {k : Nat} (h1 : ¬ 0 ≤ outI q (k : Int)) : meetTo p q (k + 1) = meetTo p q k := by
  rw [meet_succ, if_neg (by simp [bothB, h1]), List.append_nil]
theorem meetI_no {ps : List Port} {a b : Int} (h : ¬ (psOk ps ∧ (0 ≤ a ∧ a < ps.length) ∧ (0 ≤ b ∧ b < ps.length))) : meetI ps a b = [] := by unfold meetI; rw [if_neg h]
theorem meetI_yes {ps : List Port} {a b : Nat} {p q : Port} (h : psOk ps) (ha : ps[a]? = some p) (hb : ps[b]? = some q) : meetI ps (a : Int) (b : Int) = meetTo p q 10 := by
  have h1 := (List.getElem?_eq_some_iff.1 ha).1
  have h2 := (List.getElem?_eq_some_iff.1 hb).1
  unfold meetI
  rw [if_pos ⟨h, ⟨by omega, by omega⟩, ⟨by omega, by omega⟩⟩]
  simp [dp_at ha, dp_at hb]

set_option maxRecDepth 100000 in
set_option maxHeartbeats 8000000 in
theorem specMeetIn_r {A : Option Addr} {n c : Nat} {ps : List Port} {a b : Int} {w : World} {r : List Int} (h : HasP w A n ps) (hn : n ≤ 16777216) (hl : LenP ps) (hr : meetI ps a b = r) :
    Calls Tryd.prog 8 #[.slice A n c, .int .i64 a, .int .i64 b] w fun e w' => ∃ A' n' c', e = .returned (.slice A' n' c') ∧ Own w' w.heap.size 3 A' n' c' (ints .i64 r) ∧ Below w.heap.size w w' := by
  obtain ⟨i0, hi, hz0, hz1, hz2⟩ := info_parts Tryd.infoInt
  have HL := Lib.hid h.1
  have HR := Lib.hid hr
  clear hr
  have O0 := lit_own w
  have B0 := below_allocP w (.cells #[] 3)
  by_cases hok : psOk ps
  rotate_left
  · have HE := Lib.hid (meetI_no (ps := ps) (a := a) (b := b) (fun hh => hok hh.1))
    have CV := Lib.hid (specVPortsValid_b (c := c) (h.bel B0) hn hl (decide_eq_false hok))
    clear hok
    go_enter Tryd.func8, Tryd.ntmps8
    go_wp2_with (fail)
    refine CV.out.mono ?_
    rintro e w1 ⟨rfl, B1⟩
    go_wp2
    go_ret
    exact ⟨_, _, _, rfl, by rw [← HR.out, HE.out]; exact O0.bel B1, bel_trans B0 B1⟩
  have hn6 : 1 ≤ n ∧ n ≤ 6 := by have h1 := hok.2; have h2 := HL.out; omega
  have HOK := Lib.hid hok
  have CV := Lib.hid (specVPortsValid_b (c := c) (h.bel B0) hn hl (decide_eq_true hok))
  clear hok
  by_cases ha : 0 ≤ a ∧ a ≤ (n : Int) - 1
  rotate_left
  · have HE := Lib.hid (meetI_no (ps := ps) (a := a) (b := b) (fun hh => ha (by have h1 := hh.2.1; have h2 := HL.out; omega)))
    have C1 := Lib.hid (fun W => l1In_no a 0 ((n : Int) - 1) W ha)
    clear ha
    go_enter Tryd.func8, Tryd.ntmps8
    go_wp2_with (fail)
    refine CV.out.mono ?_
    rintro e w1 ⟨rfl, B1⟩
    go_wp2_with (fail)
    refine (C1.out _).mono ?_
    rintro e w' ⟨rfl, rfl⟩
    go_wp2
    go_ret
    exact ⟨_, _, _, rfl, by rw [← HR.out, HE.out]; exact O0.bel B1, bel_trans B0 B1⟩
  have C1 := Lib.hid (fun W => l1In_yes a 0 ((n : Int) - 1) W ha.1 ha.2)
  by_cases hb : 0 ≤ b ∧ b ≤ (n : Int) - 1
  rotate_left
  · have HE := Lib.hid (meetI_no (ps := ps) (a := a) (b := b) (fun hh => hb (by have h1 := hh.2.2; have h2 := HL.out; omega)))
    have C2 := Lib.hid (fun W => l1In_no b 0 ((n : Int) - 1) W hb)
    clear ha hb
    go_enter Tryd.func8, Tryd.ntmps8
    go_wp2_with (fail)
    refine CV.out.mono ?_
    rintro e w1 ⟨rfl, B1⟩
    go_wp2_with (fail)
    refine (C1.out _).mono ?_
    rintro e w' ⟨rfl, rfl⟩
    go_wp2_with (fail)
    refine (C2.out _).mono ?_
    rintro e w' ⟨rfl, rfl⟩
    go_wp2
    go_ret
    exact ⟨_, _, _, rfl, by rw [← HR.out, HE.out]; exact O0.bel B1, bel_trans B0 B1⟩
  have C2 := Lib.hid (fun W => l1In_yes b 0 ((n : Int) - 1) W hb.1 hb.2)
  obtain ⟨a', rfl⟩ := Int.eq_ofNat_of_zero_le ha.1
  obtain ⟨b', rfl⟩ := Int.eq_ofNat_of_zero_le hb.1
  have hla : a' < n := by omega
  have hlb : b' < n := by omega
  have ja0 : (0 : Int) ≤ (a' : Int) := by omega
  have ja1 : (a' : Int) < (n : Int) := by omega
  have jb0 : (0 : Int) ≤ (b' : Int) := by omega
  have jb1 : (b' : Int) < (n : Int) := by omega
  clear ha hb
  obtain ⟨bb, o, Ba, ma, da, xa, qa, la, rfl, _, hxa, _, _, _, hmda, hHa⟩ := h.at_ hla
  obtain ⟨bb2, o2, Bb, mb, db, xb, qb, lb, hA2, _, hxb, _, _, _, hmdb, hHb⟩ := h.at_ hlb
  have HXA := Lib.hid hxa
  have HXB := Lib.hid hxb
  have HE := Lib.hid (meetI_yes HOK.out hxa hxb)
  clear hxa hxb hHa hHb hA2 hmda hmdb
  go_enter Tryd.func8, Tryd.ntmps8
  go_wp2_with (fail)
  refine CV.out.mono ?_
  rintro e w1 ⟨rfl, B1⟩
  have B01 := bel_trans B0 B1
  have O01 := O0.bel B1
  go_wp2_with (fail)
  refine (C1.out _).mono ?_
  rintro e w' ⟨rfl, rfl⟩
  go_wp2_with (fail)
  refine (C2.out _).mono ?_
  rintro e w' ⟨rfl, rfl⟩
  go_wp2
  go_loopw [7, 8] (fun o' i wr => ∃ (k q : Nat) (A' : Option Addr) (c' : Nat), 1 ≤ k ∧ k ≤ 10 ∧ i = .int .i64 (k : Int) ∧ o' = .slice A' q c' ∧ q ≤ k ∧ Own wr w.heap.size 3 A' q c' (ints .i64 (meetTo (xa, qa, la) (xb, qb, lb) k)) ∧ Below w.heap.size w wr) (fun _ i _ => 10 - (intOf i).toNat)
  case atStart => exact ⟨1, 0, _, _, by omega, by omega, rfl, rfl, by omega, by rw [meet_one]; exact O01, B01⟩
  case round =>
    obtain ⟨k, j, A1, c1, hk1, hk, rfl, rfl, hj, O1, BW⟩ := hrel
    have hge := BW.size
    by_cases hlt : k ≤ 9
    · have hltB : decide ((k : Int) ≤ 9) = true := by simp; omega
      obtain ⟨_, _, B, m, d, x, q, l, hA, _, hx, d0, d1, d2, hmd, hH⟩ := (h.bel BW).at_ hla
      injection hA with hA
      injection hA with e1 e2
      subst e1 e2
      rw [HXA.out] at hx
      injection hx with hx
      injection hx with y1 y2
      injection y2 with y2 y3
      subst y1 y2 y3
      have hm := hl.at_ HXA.out hH
      obtain ⟨t, ht⟩ : ∃ t, outI (xa, qa, la) (k : Int) = t := ⟨_, rfl⟩
      have C := Lib.hid (specTagOut_r (d := d) hH hm ht)
      by_cases hp : 0 ≤ t
      · have tB : decide (t ≥ 0) = true := by simp; omega
        have tC : decide (0 ≤ t) = true := by simp; omega
        go_wp2_with (fail)
        refine C.out.mono ?_
        rintro e w2 ⟨rfl, B2⟩
        have BW2 := BW.trans (B2.mono hge)
        have O2 := O1.bel B2
        obtain ⟨_, _, B', m', d', x, q, l, hA, _, hx, f0, f1, f2, hmd', hH'⟩ := (h.bel BW2).at_ hlb
        injection hA with hA
        injection hA with e1 e2
        subst e1 e2
        rw [HXB.out] at hx
        injection hx with hx
        injection hx with y1 y2
        injection y2 with y2 y3
        subst y1 y2 y3
        have hm' := hl.at_ HXB.out hH'
        obtain ⟨u, hu⟩ : ∃ u, outI (xb, qb, lb) (k : Int) = u := ⟨_, rfl⟩
        have C' := Lib.hid (specTagOut_r (d := d') hH' hm' hu)
        by_cases hp' : 0 ≤ u
        · have uB : decide (u ≥ 0) = true := by simp; omega
          have uC : decide (0 ≤ u) = true := by simp; omega
          have HS := Lib.hid (meet_in (p := (xa, qa, la)) (q := (xb, qb, lb)) (k := k) (by rw [ht]; exact hp) (by rw [hu]; exact hp'))
          clear hp hp' ht hu d0 d1 d2
          go_wp2_with (fail)
          refine C'.out.mono ?_
          rintro e w3 ⟨rfl, B3⟩
          have BW3 := BW2.trans (B3.mono BW2.size)
          have O3 := O2.bel B3
          have s3 := BW3.size
          go_wp2_with (at_builtin; refine wpList_apps _ rfl (.tmp 50) (.tmp 52) 26 rfl w.heap.size 3 i0 (.int .i64 0) 8 Tryd.underlying26 hi hz0 hz1 hz2 rfl A1 j c1 _ rfl O3 1 1 #[.int .i64 (k : Int)] rfl rfl (by simp [Value.oneCell']) (by decide) (by omega) (by decide) s3 ?_; intro g4 c4 w4 O4 G4 B4 _)
          go_roundw
          case rel => exact ⟨k + 1, j + 1, _, _, by omega, by omega, by go_num, rfl, by omega, by rw [HS.out, ints_app]; exact O4, BW3.trans B4⟩
          case measure => simp [intOf]; omega
        · have uB : decide (u ≥ 0) = false := by simp; omega
          have uC : decide (0 ≤ u) = false := by simp; omega
          have HS := Lib.hid (meet_out2 (p := (xa, qa, la)) (q := (xb, qb, lb)) (k := k) (by rw [hu]; exact hp'))
          clear hp hp' ht hu d0 d1 d2
          go_wp2_with (fail)
          refine C'.out.mono ?_
          rintro e w3 ⟨rfl, B3⟩
          have BW3 := BW2.trans (B3.mono BW2.size)
          have O3 := O2.bel B3
          go_wp2
          go_roundw
          case rel => exact ⟨k + 1, j, _, _, by omega, by omega, by go_num, rfl, by omega, by rw [HS.out]; exact O3, BW3⟩
          case measure => simp [intOf]; omega
      · have tB : decide (t ≥ 0) = false := by simp; omega
        have tC : decide (0 ≤ t) = false := by simp; omega
        have HS := Lib.hid (meet_out1 (p := (xa, qa, la)) (q := (xb, qb, lb)) (k := k) (by rw [ht]; exact hp))
        clear hp ht
        go_wp2_with (fail)
        refine C.out.mono ?_
        rintro e w2 ⟨rfl, B2⟩
        have BW2 := BW.trans (B2.mono hge)
        have O2 := O1.bel B2
        go_wp2
        go_roundw
        case rel => exact ⟨k + 1, j, _, _, by omega, by omega, by go_num, rfl, by omega, by rw [HS.out]; exact O2, BW2⟩
        case measure => simp [intOf]; omega
    · have hltB : decide ((k : Int) ≤ 9) = false := by simp; omega
      obtain rfl : k = 10 := by omega
      go_wp2
      go_ret
      exact ⟨_, _, _, rfl, by rw [← HR.out, HE.out]; exact O1, BW⟩

theorem apart_succ (ps : List Port) (a k : Nat) : apartTo ps a (k + 1) = apartTo ps a k ++ (if k ≠ a ∧ meetTo (dp ps a) (dp ps k) 10 = [] then [(k : Int)] else []) := rfl
theorem apartI_no {ps : List Port} {a : Int} (h : ¬ (psOk ps ∧ 0 ≤ a ∧ a < ps.length)) : apartI ps a = [] := by unfold apartI; rw [if_neg h]
theorem apartI_yes {ps : List Port} {a : Nat} (h : psOk ps) (ha : a < ps.length) : apartI ps (a : Int) = apartTo ps a ps.length := by
  unfold apartI; rw [if_pos ⟨h, by omega, by omega⟩]; simp
theorem meetI_dp {ps : List Port} {a b : Nat} (h : psOk ps) (ha : a < ps.length) (hb : b < ps.length) : meetI ps (a : Int) (b : Int) = meetTo (dp ps a) (dp ps b) 10 := meetI_yes h (dp_some ha) (dp_some hb)
theorem apart_in {ps : List Port} {a k : Nat} (h : psOk ps) (ha : a < ps.length) (hk : k < ps.length) (hne : k ≠ a) (he : meetI ps (a : Int) (k : Int) = []) : apartTo ps a (k + 1) = apartTo ps a k ++ [(k : Int)] := by
  rw [apart_succ, if_pos ⟨hne, by rw [← meetI_dp h ha hk]; exact he⟩]
theorem apart_out {ps : List Port} {a k : Nat} (h : psOk ps) (ha : a < ps.length) (hk : k < ps.length) (he : meetI ps (a : Int) (k : Int) ≠ []) : apartTo ps a (k + 1) = apartTo ps a k := by
  rw [apart_succ, if_neg (fun hh => he (by rw [meetI_dp h ha hk]; exact hh.2)), List.append_nil]
theorem apart_self (ps : List Port) (a : Nat) : apartTo ps a (a + 1) = apartTo ps a a := by
  rw [apart_succ, if_neg (fun hh => hh.1 rfl), List.append_nil]
theorem len_nil {l : List Int} {n : Nat} (h : l.length = n) : n = 0 ↔ l = [] := by rw [← h]; exact List.length_eq_zero_iff

end Go.Proofs.YtiokieancjigeaaDoor
