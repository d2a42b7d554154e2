/-
  Chapter 9's program, stations that send when they like: what is proved here is what RunTalk returns, in memory of its own, and that it writes nothing that was there. Condition: lengths up to 2^24.
-/
import Derived.Test.YtpciaokafokfmaaImp9f
namespace Go.Proofs.Ytpciaokafokfmaa
open Go.RowKit

theorem IRow.talkers {w : World} {r : Nat} {t m o : Value} {h s : Int} {d : Bool} (k : IRow w r t m o h s d) (t' : Value) : IRow (w.setCell ⟨r, 0, none⟩ t') r t' m o h s d := (heap_setCell_same w r 0 _ _ _ k).trans rfl
theorem OwnK.mono9 {w : World} {e : TypeId} {lo lo' n c : Nat} {A : Option Addr} {hs : List Tri} (h : OwnK w lo e A n c hs) (hl : lo' ≤ lo) : OwnK w lo' e A n c hs := by
  refine ⟨h.1, ?_⟩
  rcases h.2 with h' | ⟨g, cap, cur, hv, hb, r⟩
  · exact .inl h'
  · exact .inr ⟨g, cap, cur, hv, by omega, r⟩
theorem six_grown (w : World) (B : Nat) (a b c d e f : Value) : w.grownBy ((((((w.setCell ⟨B, 0, none⟩ a).setCell ⟨B, 1, none⟩ b).setCell ⟨B, 2, none⟩ c).setCell ⟨B, 3, none⟩ d).setCell ⟨B, 4, none⟩ e).setCell ⟨B, 5, none⟩ f) (some B) :=
  grown_set (grown_set (grown_set (grown_set (grown_set (one_grown9 w B 0 a) 1 b) 2 c) 3 d) 4 e) 5 f
theorem four_grown9 (w : World) (B : Nat) (a b c d : Value) : w.grownBy ((((w.setCell ⟨B, 0, none⟩ a).setCell ⟨B, 1, none⟩ b).setCell ⟨B, 2, none⟩ c).setCell ⟨B, 3, none⟩ d) (some B) :=
  grown_set (grown_set (grown_set (one_grown9 w B 0 a) 1 b) 2 c) 3 d
theorem Try.infoTalker : (Try.prog.info? 70).map (fun i => (i.zero, i.size, i.bytes)) = some (some (.agg #[.int .i64 0, .int .i64 0, .int .i64 0]), 3, 24) := by kernel_rfl
/-- Stations of whom k have their frames. -/
def begunTo (qs : List Int) (n k : Nat) : List Tk := (qs.take k).map (fun q => (q, 0, 0)) ++ List.replicate (n - k) (0, 0, 0)
theorem begunTo_set {qs : List Int} {n k : Nat} {q : Int} (hn : qs.length = n) (h : qs[k]? = some q) : (begunTo qs n k).set k (q, 0, 0) = begunTo qs n (k + 1) := by
  have hk : k < n := by have := (List.getElem?_eq_some_iff.1 h).1; omega
  obtain ⟨d, hd⟩ : ∃ d, n - k = d + 1 := ⟨n - k - 1, by omega⟩
  unfold begunTo
  rw [List.take_add_one, h, hd, List.replicate_succ, show n - (k + 1) = d by omega]
  have hl : ((qs.take k).map (fun q => ((q, 0, 0) : Tk))).length = k := by rw [List.length_map, List.length_take]; omega
  rw [List.set_append_right _ _ (by omega), hl, Nat.sub_self, List.set_cons_zero]
  simp
theorem begunTo_all {qs : List Int} {n : Nat} (hn : qs.length = n) (ds : List Int) : begunTo qs n n = (initT qs ds).ts := by
  unfold begunTo initT
  rw [Nat.sub_self, List.take_of_length_le (by omega)]; simp
theorem begunTo_len {qs : List Int} {n k : Nat} (hn : qs.length = n) (hk : k ≤ n) : (begunTo qs n k).length = n := by
  unfold begunTo; rw [List.length_append, List.length_map, List.length_take, List.length_replicate]; omega

set_option maxRecDepth 100000 in
set_option maxHeartbeats 4000000 in
theorem talkOf_w {A D : Option Addr} {n c nd cd : Nat} {qs ds : List Int} {w : World} (h : Has w A n (ints .i64 qs)) (hn : n ≤ 6) :
    Calls Try.prog 47 #[.slice A n c, .slice D nd cd] w fun e w' => ∃ g, e = .returned (.agg #[.slice (some ⟨g, 0, none⟩) n n, .slice D nd cd, .slice none 0 0, .int .i64 0, .int .i64 0, .bool false]) ∧ OwnK w' w.heap.size 70 (some ⟨g, 0, none⟩) n n (initT qs ds).ts ∧ Below w.heap.size w w' := by
  obtain ⟨i0, hi, hz0, hz1, hz2⟩ := info_partsK Try.infoTalker
  have HL := Lib.hid h.len
  obtain ⟨W0, hW0⟩ : ∃ W0, w.alloc (.cells #[.slice none 0 0, .slice none 0 0, .slice none 0 0, .int .i64 0, .int .i64 0, .bool false] 60) = W0 := ⟨_, rfl⟩
  have K0 : IRow W0 w.heap.size (.slice none 0 0) (.slice none 0 0) (.slice none 0 0) 0 0 false := by rw [← hW0]; exact heap_alloc_new w _
  have B0 : Below w.heap.size w W0 := by rw [← hW0]; exact (Below.refl _ _).alloc (Nat.le_refl _) _
  have sle : w.heap.size ≤ W0.heap.size := B0.size
  have hs0 : w.heap.size < W0.heap.size := K0.lt
  have hbe : Hid (begunTo qs n 0 = List.replicate n (0, 0, 0)) := by unfold begunTo; rw [Nat.sub_zero]; rfl
  go_enter Try.func47, Try.ntmps47
  go_wp2_with (at_make; refine wpList_make_full _ rfl _ _ 57 rfl W0.heap.size 70 i0 (.agg #[.int .i64 0, .int .i64 0, .int .i64 0]) 3 Try.underlying57 hi hz0 hz1 .i64 .i64 _ _ n rfl rfl (by omega) (by omega) (by rw [hz2]; omega) (by unfold maxLen; omega) (Nat.le_refl _) ?_; intro w1 hown hgrow; rw [made_zerosK] at hown; have B1 : Below W0.heap.size W0 w1 := below_of_grown hgrow (Nat.le_refl _) (fun k hk => by cases hk))
  have O1 : OwnK w1 W0.heap.size 70 (some ⟨W0.heap.size, 0, none⟩) n n (begunTo qs n 0) := by rw [hbe.out]; exact hown
  clear hown hgrow
  have E1 : Below W0.heap.size W0 w1 := B1
  go_loopw [13] (fun t wr => ∃ k : Nat, k ≤ n ∧ t = .int .i64 (k : Int) ∧ OwnK wr W0.heap.size 70 (some ⟨W0.heap.size, 0, none⟩) n n (begunTo qs n k) ∧ Below W0.heap.size W0 wr) (fun t _ => n - (intOf t).toNat)
  case atStart => exact ⟨0, Nat.zero_le _, rfl, O1, E1⟩
  case round =>
    obtain ⟨k, hk, rfl, OK, BK⟩ := hrel
    by_cases hkn : k < n
    · have kB : decide ((k : Int) < (n : Int)) = true := by simp; omega
      have kN : decide (k < n) = true := by simp; omega
      have kW : IntKind.i64.wrap ((k : Int) + 1) = ((k + 1 : Nat) : Int) := by rw [IntWalk.i64_in _ (by omega)]; omega
      have bk : (k : Int) < (n : Int) := by omega
      have h2 := h.bel (B0.trans (BK.mono sle))
      obtain ⟨b, o, q, rfl, hbl, hx, hc⟩ := h2.at_ hkn
      have HS := Lib.hid (begunTo_set HL.out hx)
      have hat : (begunTo qs n k)[k]? = some ((0, 0, 0) : Tk) := by
        unfold begunTo
        have hl : ((qs.take k).map (fun q => ((q, 0, 0) : Tk))).length = k := by rw [List.length_map, List.length_take]; have := HL.out; omega
        rw [List.getElem?_append_right (by omega), hl, Nat.sub_self, List.getElem?_replicate, if_pos (by omega)]
      obtain ⟨x, p0, p1, p2⟩ := OK.cells hkn
      have fz := World.ownsRow.frozenAt OK
      have OP := World.ownsRow.stored OK (k * 3) (.int .i64 q)
      have hF : (flatK (begunTo qs n k)).set (k * 3) (.int .i64 q) = flatK (begunTo qs n (k + 1)) := by
        rw [← HS.out, flatK_set]
        obtain ⟨a1, a2, a3⟩ := flatK_at _ _ _ hat
        have l1 : ((flatK (begunTo qs n k)).set (k * 3) (.int .i64 q))[k * 3 + 1]? = some (.int .i64 0) := by rw [List.getElem?_set_ne (by omega)]; exact a2
        have l2 : ((flatK (begunTo qs n k)).set (k * 3) (.int .i64 q))[k * 3 + 2]? = some (.int .i64 0) := by rw [List.getElem?_set_ne (by omega)]; exact a3
        dsimp only
        have s1 : ((flatK (begunTo qs n k)).set (k * 3) (.int .i64 q)).set (k * 3 + 1) (.int .i64 0) = (flatK (begunTo qs n k)).set (k * 3) (.int .i64 q) := by
          obtain ⟨hl, he⟩ := List.getElem?_eq_some_iff.1 l1
          rw [← he]; exact List.set_getElem_self hl
        rw [s1]
        obtain ⟨hl, he⟩ := List.getElem?_eq_some_iff.1 l2
        rw [← he]; exact (List.set_getElem_self hl).symm
      have HO : Hid (OwnK (wr.setCell ⟨W0.heap.size, k * 3, none⟩ (.int .i64 q)) W0.heap.size 70 (some ⟨W0.heap.size, 0, none⟩) n n (begunTo qs n (k + 1))) := by
        have h1 := OP.1
        rw [hF] at h1
        exact h1
      have HB : Hid (Below W0.heap.size W0 (wr.setCell ⟨W0.heap.size, k * 3, none⟩ (.int .i64 q))) := BK.setCell (p := ⟨W0.heap.size, k * 3, none⟩) (Nat.le_refl _) _
      clear hx hat OP hF p1 p2
      go_wp2
      go_roundw
      case rel => exact ⟨k + 1, by have := of_decide_eq_true kN; omega, by simp, HO.out, HB.out⟩
      case measure => have := of_decide_eq_true kN; simp [intOf]; omega
    · have kB : decide ((k : Int) < (n : Int)) = false := by simp; omega
      have kN : decide (k < n) = false := by simp; omega
      obtain rfl : k = n := by omega
      have KB : IRow wr w.heap.size (.slice none 0 0) (.slice none 0 0) (.slice none 0 0) 0 0 false := (BK.block _ hs0).trans K0
      obtain ⟨c0, c1, c2, c3, c4, c5⟩ := KB.cells
      have f0 := KB.open_ 0
      have f1 := KB.open_ 1
      have f2 := KB.open_ 2
      have f3 := KB.open_ 3
      have f4 := KB.open_ 4
      have f5 := KB.open_ 5
      have hg0 : W0.heap.size ≠ w.heap.size := by omega
      go_wp2
      have KF := ((((((KB.talkers (.slice (some ⟨W0.heap.size, 0, none⟩) k k)).draws (.slice D nd cd)).order (.slice none 0 0)).hits 0).slots 0).done false)
      refine bodyPost_ret (results_cell_row rfl _ _ _ _ _ _ _ rfl KF Try.underlying60 rfl (by kernel_rfl)) rfl ?_
      have GG := six_grown wr w.heap.size (.slice (some ⟨W0.heap.size, 0, none⟩) k k) (.slice D nd cd) (.slice none 0 0) (.int .i64 0) (.int .i64 0) (.bool false)
      have OF := (OK.grown9 GG (fun e => by injection e with e; omega)).mono9 sle
      rw [begunTo_all HL.out ds] at OF
      exact ⟨_, rfl, OF, (B0.trans (BK.mono sle)).trans (below_of_grown GG (Nat.le_trans sle BK.size) (fun j hj => by injection hj with hj; omega))⟩

/-- How many slots there were. -/
def slotsIn (w : World) (r : Nat) : Nat := match w.cell? ⟨r, 4, none⟩ with
  | some (.int _ z) => z.toNat
  | _ => 0
theorem slotsIn_row {w : World} {r : Nat} {t m o : Value} {h : Int} {s : Nat} {d : Bool} (k : IRow w r t m o h s d) : slotsIn w r = s := by unfold slotsIn; rw [k.cells.2.2.2.2.1]; simp

set_option maxRecDepth 100000 in
set_option maxHeartbeats 8000000 in
theorem implRunTalk_w {A D : Option Addr} {n c nd cd : Nat} {qs ds : List Int} {sl : Int} {w : World} (h : Has w A n (ints .i64 qs)) (hn : n ≤ 16777216) (hD : Has w D nd (ints .i64 ds)) (hnd : nd ≤ 16777216) (hcd : nd ≤ cd) (hDl : ∀ x, D = some x → x.block < w.heap.size) :
    Calls Try.prog 17 #[.slice A n c, .slice D nd cd, .int .i64 sl] w fun e w' => RunR w w' e (talkO qs ds sl) (talkH qs ds sl) (talkN qs ds sl) (talkD qs ds sl) (talkRunOk qs ds sl) := by
  have HL := Lib.hid h.len
  have HLD := Lib.hid hD.len
  obtain ⟨W0, hW0⟩ : ∃ W0, w.alloc (.cells #[.slice none 0 0, .int .i64 0, .int .i64 0, .bool false] 27) = W0 := ⟨_, rfl⟩
  have K0 : RunRow W0 w.heap.size none 0 0 0 0 false := by rw [← hW0]; exact heap_alloc_new w _
  have B0 : Below w.heap.size w W0 := by rw [← hW0]; exact (Below.refl _ _).alloc (Nat.le_refl _) _
  have sle : w.heap.size ≤ W0.heap.size := B0.size
  have hs0 : w.heap.size < W0.heap.size := K0.lt
  have h0 := h.bel B0
  have hD0 := hD.bel B0
  obtain ⟨k0, k1, k2, k3⟩ := K0.cells
  have f0 := K0.open_ 0
  have f1 := K0.open_ 1
  have f2 := K0.open_ 2
  have f3 := K0.open_ 3
  have bad : talkRunOk qs ds sl = false → ∀ W, Below w.heap.size w W → RunR w W (.returned (.tuple #[.agg #[.slice none 0 0, .int .i64 0, .int .i64 0, .bool false], .bool false])) (talkO qs ds sl) (talkH qs ds sl) (talkN qs ds sl) (talkD qs ds sl) (talkRunOk qs ds sl) := fun hb W hB => by
    unfold talkO talkH talkN talkD
    rw [hb]
    exact ⟨none, 0, 0, rfl, World.ownsRow_nil _ _ _ _, hB⟩
  have BAD := Lib.hid bad
  clear bad
  by_cases hb : talkOk qs = true
  rotate_left
  · have hbf : talkOk qs = false := by simpa using hb
    have C := Lib.hid (implTalkValid_b (c := c) (b := false) h0 hn hbf)
    have HF := Lib.hid (BAD.out (by unfold talkRunOk; rw [hbf]; rfl))
    clear hb hbf
    go_enter Try.func17, Try.ntmps17
    go_wp2_with (fail)
    refine C.out.mono ?_
    rintro e w' ⟨rfl, rfl⟩
    go_wp2
    refine bodyPost_ret (results_row_tmp rfl _ _ _ _ _ _ _ rfl (K0.put none 0 0 0 0 false) Try.underlying27 rfl (by kernel_rfl)) rfl ?_
    exact HF.out _ ((((B0.setCell (Nat.le_refl _) _).setCell (Nat.le_refl _) _).setCell (Nat.le_refl _) _).setCell (Nat.le_refl _) _)
  have C := Lib.hid (implTalkValid_b (c := c) h0 hn hb)
  by_cases hdr : (okDs ds && decide (ds.length ≤ 200)) = true
  rotate_left
  · have hdf : (okDs ds && decide (ds.length ≤ 200)) = false := by simpa using hdr
    have C2 := Lib.hid (areDraws_b (c := cd) (b := false) hD0 hnd hdf)
    have HF := Lib.hid (BAD.out (by unfold talkRunOk; rw [hdf]; simp))
    clear hb hdr hdf
    go_enter Try.func17, Try.ntmps17
    go_wp2_with (fail)
    refine C.out.mono ?_
    rintro e w' ⟨rfl, rfl⟩
    go_wp2_with (fail)
    refine C2.out.mono ?_
    rintro e w' ⟨rfl, rfl⟩
    go_wp2
    refine bodyPost_ret (results_row_tmp rfl _ _ _ _ _ _ _ rfl (K0.put none 0 0 0 0 false) Try.underlying27 rfl (by kernel_rfl)) rfl ?_
    exact HF.out _ ((((B0.setCell (Nat.le_refl _) _).setCell (Nat.le_refl _) _).setCell (Nat.le_refl _) _).setCell (Nat.le_refl _) _)
  have C2 := Lib.hid (areDraws_b (c := cd) hD0 hnd hdr)
  by_cases hs : 0 ≤ sl ∧ sl ≤ 2000
  rotate_left
  · have C3 := Lib.hid (areSlots_no W0 hs)
    have HF := Lib.hid (BAD.out (by
      cases ht : talkRunOk qs ds sl with
      | false => rfl
      | true => exact absurd (talkRunOk_iff.1 ht).2.2 hs))
    clear hb hdr hs
    go_enter Try.func17, Try.ntmps17
    go_wp2_with (fail)
    refine C.out.mono ?_
    rintro e w' ⟨rfl, rfl⟩
    go_wp2_with (fail)
    refine C2.out.mono ?_
    rintro e w' ⟨rfl, rfl⟩
    go_wp2_with (fail)
    refine C3.out.mono ?_
    rintro e w' ⟨rfl, rfl⟩
    go_wp2
    refine bodyPost_ret (results_row_tmp rfl _ _ _ _ _ _ _ rfl (K0.put none 0 0 0 0 false) Try.underlying27 rfl (by kernel_rfl)) rfl ?_
    exact HF.out _ ((((B0.setCell (Nat.le_refl _) _).setCell (Nat.le_refl _) _).setCell (Nat.le_refl _) _).setCell (Nat.le_refl _) _)
  have C3 := Lib.hid (areSlots_yes W0 hs)
  have hdp : okDs ds = true ∧ ds.length ≤ 200 := by simpa using hdr
  have hV : talkRunOk qs ds sl = true := talkRunOk_iff.2 ⟨hb, hdp, hs⟩
  have HV := Lib.hid hV
  obtain ⟨hq, hl6⟩ := talkOk_iff.1 hb
  have hn6 : n ≤ 6 := by have := h.len; omega
  have hok0 := initT_ok hq hdp.1
  rw [h.len] at hok0
  have HOK0 := Lib.hid hok0
  have hnd2 : nd ≤ 200 := by have := hD.len; omega
  obtain ⟨L, rfl⟩ := Int.eq_ofNat_of_zero_le hs.1
  have hL2 : L ≤ 2000 := by omega
  have C4 := Lib.hid (talkOf_w (D := D) (nd := nd) (cd := cd) (ds := ds) (c := c) h0 hn6)
  -- the end
  have fin : ∀ st : TS, runT L (initT qs ds) = st → ∀ (W : World) (O : Option Addr) (co : Nat), RunRow W w.heap.size none 0 0 0 0 false → Own W w.heap.size 3 O st.o.length co (ints .i64 st.o) → Below w.heap.size w W →
      RunR w ((((W.setCell ⟨w.heap.size, 0, none⟩ (.slice O st.o.length co)).setCell ⟨w.heap.size, 1, none⟩ (.int .i64 st.h)).setCell ⟨w.heap.size, 2, none⟩ (.int .i64 st.s)).setCell ⟨w.heap.size, 3, none⟩ (.bool (!goesL st.ts))) (.returned (.tuple #[.agg #[.slice O st.o.length co, .int .i64 st.h, .int .i64 st.s, .bool (!goesL st.ts)], .bool true])) (talkO qs ds L) (talkH qs ds L) (talkN qs ds L) (talkD qs ds L) (talkRunOk qs ds L) := fun st hst W O co hK hO hB => by
    have e0 : talkS qs ds L = st := by unfold talkS; rw [Int.toNat_natCast]; exact hst
    unfold talkO talkH talkN talkD
    rw [hV, e0]
    refine ⟨O, _, co, rfl, ?_, (((hB.setCell (Nat.le_refl _) _).setCell (Nat.le_refl _) _).setCell (Nat.le_refl _) _).setCell (Nat.le_refl _) _⟩
    simp only [if_true]
    exact own_set (own_set (own_set (own_set hO hK (by decide) 0 _) (hK.order _ _ _) (by decide) 1 _) ((hK.order _ _ _).hits _) (by decide) 2 _) (((hK.order _ _ _).hits _).slots _) (by decide) 3 _
  have FIN := Lib.hid fin
  clear hb hdr hs hV hdp BAD hq hl6 hok0 fin
  go_enter Try.func17, Try.ntmps17
  go_wp2_with (fail)
  refine C.out.mono ?_
  rintro e w' ⟨rfl, rfl⟩
  go_wp2_with (fail)
  refine C2.out.mono ?_
  rintro e w' ⟨rfl, rfl⟩
  go_wp2_with (fail)
  refine C3.out.mono ?_
  rintro e w' ⟨rfl, rfl⟩
  go_wp2_with (fail)
  refine C4.out.mono ?_
  rintro e w1 ⟨g, rfl, OT, B1⟩
  obtain ⟨W2, hW2⟩ : ∃ W2, w1.alloc (.cells #[.slice (some ⟨g, 0, none⟩) n n, .slice D nd cd, .slice none 0 0, .int .i64 0, .int .i64 0, .bool false] 60) = W2 := ⟨_, rfl⟩
  have KI : IRow W2 w1.heap.size (.slice (some ⟨g, 0, none⟩) n n) (.slice D nd cd) (.slice none 0 0) 0 0 false := by rw [← hW2]; exact heap_alloc_new w1 _
  have B2 : Below w1.heap.size w1 W2 := by rw [← hW2]; exact (Below.refl _ _).alloc (Nat.le_refl _) _
  have E1 : Below w.heap.size w w1 := B0.trans (B1.mono sle)
  have E2 : Below w.heap.size w W2 := E1.trans (B2.mono E1.size)
  obtain ⟨r, hr⟩ : ∃ r, w1.heap.size = r := ⟨_, rfl⟩
  have hrw : w.heap.size < r := by have := B1.size; omega
  have hr0 : W0.heap.size ≤ r := by have := B1.size; omega
  have I2 : IW W2 W0.heap.size r g n none 0 D cd (initT qs ds).ts (initT qs ds).ds (initT qs ds).o (initT qs ds).h (initT qs ds).s := by
    refine ⟨?_, OT.bel B2, World.ownsRow_nil _ _ _ _, ?_, fun x hx => Nat.lt_of_lt_of_le (hDl x hx) sle, ?_, hr0⟩
    · rw [← hr]; show IRow W2 w1.heap.size _ (.slice D ds.length cd) _ _ _ _; rw [HLD.out]; exact KI
    · show Has W2 D ds.length (ints .i64 ds); rw [HLD.out]; exact hD.bel E2
    · show ds.length ≤ cd; rw [HLD.out]; exact hcd
  have KR2 : RunRow W2 w.heap.size none 0 0 0 0 false := K0.bel (B1.trans (B2.mono B1.size))
  have HRR := Lib.hid hr
  have hst0 : Hid (runT (L - (initT qs ds).s) (initT qs ds) = runT L (initT qs ds)) := rfl
  clear OT B1 KI E1 k0 k1 k2 k3 f0 f1 f2 f3 B2 C C2 C3 C4
  have HW2 := Lib.hid hW2
  clear hr hW2
  go_wp2
  rw [HW2.out, HRR.out]
  go_loopw [26] (fun _ wr => ∃ (st : TS) (O : Option Addr) (co : Nat) (D' : Option Addr) (cd' : Nat), Hid (runT (L - st.s) st = runT L (initT qs ds)) ∧ st.s ≤ L ∧ Hid (OkT n st) ∧ st.ds.length ≤ 200 ∧ IW wr W0.heap.size r g n O co D' cd' st.ts st.ds st.o st.h st.s ∧ RunRow wr w.heap.size none 0 0 0 0 false ∧ Below w.heap.size w wr) (fun _ wr => L - slotsIn wr r)
  case atStart => exact ⟨initT qs ds, none, 0, D, cd, hst0, Nat.zero_le _, HOK0, by show ds.length ≤ 200; rw [HLD.out]; exact hnd2, I2, KR2, E2⟩
  case round =>
    obtain ⟨st, O, co, D', cd', HR, hsL, HK, hdl, MI, KB, BW⟩ := hrel
    have CG := Lib.hid (goesOn_any MI.row MI.t.has hn6)
    have HSL := Lib.hid (slotsIn_row MI.row)
    have sW := BW.size
    cases hg : goesL st.ts with
    | false =>
      rw [hg] at CG
      go_wp2_with (fail)
      refine CG.out.mono ?_
      rintro e w5 ⟨rfl, B5⟩
      have CG2 := Lib.hid (goesOn_any (MI.bel B5).row (MI.bel B5).t.has hn6)
      rw [hg] at CG2
      go_wp2_with (fail)
      refine CG2.out.mono ?_
      rintro e we ⟨rfl, B6⟩
      have HST := Lib.hid (show runT L (initT qs ds) = st from by rw [← HR.out, runT_stop hg])
      have ME := (MI.bel B5).bel B6
      have KBE := (KB.bel B5).bel B6
      have BE := (BW.trans (B5.mono sW)).trans (B6.mono (Nat.le_trans sW B5.size))
      have c5 := ME.row.cells.2.2.2.2.2
      have cf5 := ME.row.open_ 5
      have KD := ME.row.done true
      have d2 := KD.cells.2.2.1
      have d3 := KD.cells.2.2.2.1
      have d4 := KD.cells.2.2.2.2.1
      have d5 := KD.cells.2.2.2.2.2
      have KBD := KBE.grown (one_grown9 we r 5 (.bool true)) (by simp; omega)
      have OD := own_set (ME.o.mono sle) ME.row (by decide) 5 (.bool true)
      have BD := BE.setCell (p := ⟨r, 5, none⟩) (Nat.le_of_lt hrw) (.bool true)
      obtain ⟨b0, b1, b2, b3⟩ := KBD.cells
      have e0 := KBD.open_ 0
      have e1 := KBD.open_ 1
      have e2 := KBD.open_ 2
      have e3 := KBD.open_ 3
      have FF := FIN.out st HST.out _ O co KBD OD BD
      rw [hg] at FF
      have HFF := Lib.hid FF
      clear FF
      go_wp2
      refine bodyPost_ret (results_row_tmp rfl _ _ _ _ _ _ _ rfl (KBD.put O st.o.length co st.h st.s true) Try.underlying27 rfl (by kernel_rfl)) rfl ?_
      exact HFF.out
    | true =>
      rw [hg] at CG
      by_cases hlt : st.s < L
      rotate_left
      · have l1 : decide ((st.s : Int) < (L : Int)) = false := by simp; omega
        have l2 : decide (st.s < L) = false := by simp; omega
        go_wp2_with (fail)
        refine CG.out.mono ?_
        rintro e w5 ⟨rfl, B5⟩
        have a4 := (MI.bel B5).row.cells.2.2.2.2.1
        have CG2 := Lib.hid (goesOn_any (MI.bel B5).row (MI.bel B5).t.has hn6)
        rw [hg] at CG2
        go_wp2_with (fail)
        refine CG2.out.mono ?_
        rintro e we ⟨rfl, B6⟩
        have HST := Lib.hid (show runT L (initT qs ds) = st from by rw [← HR.out, show L - st.s = 0 by omega]; rfl)
        have ME := (MI.bel B5).bel B6
        have KBE := (KB.bel B5).bel B6
        have BE := (BW.trans (B5.mono sW)).trans (B6.mono (Nat.le_trans sW B5.size))
        have c5 := ME.row.cells.2.2.2.2.2
        have cf5 := ME.row.open_ 5
        have KD := ME.row.done false
        have d2 := KD.cells.2.2.1
        have d3 := KD.cells.2.2.2.1
        have d4 := KD.cells.2.2.2.2.1
        have d5 := KD.cells.2.2.2.2.2
        have KBD := KBE.grown (one_grown9 we r 5 (.bool false)) (by simp; omega)
        have OD := own_set (ME.o.mono sle) ME.row (by decide) 5 (.bool false)
        have BD := BE.setCell (p := ⟨r, 5, none⟩) (Nat.le_of_lt hrw) (.bool false)
        obtain ⟨b0, b1, b2, b3⟩ := KBD.cells
        have e0 := KBD.open_ 0
        have e1 := KBD.open_ 1
        have e2 := KBD.open_ 2
        have e3 := KBD.open_ 3
        have FF := FIN.out st HST.out _ O co KBD OD BD
        rw [hg] at FF
        have HFF := Lib.hid FF
        clear FF
        go_wp2
        refine bodyPost_ret (results_row_tmp rfl _ _ _ _ _ _ _ rfl (KBD.put O st.o.length co st.h st.s false) Try.underlying27 rfl (by kernel_rfl)) rfl ?_
        exact HFF.out
      have l1 : decide ((st.s : Int) < (L : Int)) = true := by simp; omega
      have l2 : decide (st.s < L) = true := by simp; omega
      have HR2 := Lib.hid (show runT (L - (st.s + 1)) (slotS st) = runT L (initT qs ds) by
        have h1 := HR.out
        obtain ⟨m, hm⟩ : ∃ m, L - st.s = m + 1 := ⟨L - st.s - 1, by omega⟩
        rw [hm, runT, if_pos hg] at h1
        rw [show L - (st.s + 1) = m by omega]; exact h1)
      have HK2 := Lib.hid (slotS_ok hn6 HK.out)
      have hdl2 : (slotS st).ds.length ≤ 200 := Nat.le_trans (slotF_dl _ _ _ _) hdl
      go_wp2_with (fail)
      refine CG.out.mono ?_
      rintro e w5 ⟨rfl, B5⟩
      have M5 := MI.bel B5
      have a4 := M5.row.cells.2.2.2.2.1
      have E5 := BW.trans (B5.mono sW)
      have KB5 := KB.bel B5
      have sW0 : W0.heap.size ≤ w5.heap.size := Nat.le_trans (Nat.le_trans MI.ge (Nat.le_of_lt MI.row.lt)) B5.size
      have CS := Lib.hid (implSlot_any HK.out hn6 (by omega) hdl sW0 M5)
      go_wp2_with (fail)
      refine CS.out.mono ?_
      rintro e w6 ⟨rfl, ⟨O6, co6, D6, cd6, M6⟩, B6⟩
      have E6 := E5.trans (B6.mono sle)
      have KB6 : RunRow w6 w.heap.size none 0 0 0 0 false := (B6.block _ hs0).trans KB5
      have HM6 := Lib.hid (show L - slotsIn w6 r < L - slotsIn wr r by rw [slotsIn_row M6.row, HSL.out, slotS_s]; omega)
      go_wp2
      go_roundw
      case rel => exact ⟨slotS st, O6, co6, D6, cd6, HR2, by have := of_decide_eq_true l2; rw [slotS_s]; omega, HK2, hdl2, M6, KB6, E6⟩
      case measure => exact HM6.out
end Go.Proofs.Ytpciaokafokfmaa
