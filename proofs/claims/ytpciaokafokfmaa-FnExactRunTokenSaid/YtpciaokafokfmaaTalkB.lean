/-
  Chapter 9's model, stations that send in turn: what is proved here is what RunToken returns, in memory of its own, and that it writes nothing that was there. Condition: lengths up to 2^24.
-/
import Derived.Test.YtpciaokafokfmaaTalkR
namespace Go.Proofs.Ytpciaokafokfmaa
open Go.RowKit

theorem sumMin_lt : ∀ (qs : List Int) (m h : Nat), (∀ x ∈ qs, 0 ≤ x) → (sumMin qs m : Int) < qs.sum → 1 ≤ h → sumMin qs m < sumMin qs (m + h)
  | [], _, _, _, hs, _ => by simp [sumMin] at hs
  | q :: r, m, h, hq, hs, hh => by
    have q0 := hq q (by simp)
    have mono : ∀ (l : List Int), sumMin l m ≤ sumMin l (m + h) := fun l => by
      unfold sumMin
      induction l with
      | nil => exact Nat.le_refl _
      | cons a l ih => simp only [List.map_cons, List.sum_cons]; omega
    have e1 : ∀ x, sumMin (q :: r) x = min q.toNat x + sumMin r x := fun x => by simp [sumMin]
    rw [e1, e1] at *
    rw [List.sum_cons] at hs
    have m1 := mono r
    by_cases hqm : (m : Int) < q
    · omega
    · have := sumMin_lt r m h (fun x hx => hq x (by simp [hx])) (by push_cast at hs; omega) hh
      omega
theorem tok_grows {qs l o : List Int} {hold lim T : Nat} (hq : ∀ x ∈ qs, 0 ≤ x) (h : Lf qs l o) (ho : o = (orderTo qs hold T).take lim) (hlt : o.length < lim) (hs : 0 < l.sum) (hh : 1 ≤ hold) :
    o.length < (tokRow lim hold 0 qs.length l o).2.length := by
  rw [(tokRow_turn h ho).2, List.length_take, orderTo_len, Nat.succ_mul]
  have h1 : o.length = min lim (sumMin qs (T * hold)) := by rw [ho, List.length_take, orderTo_len]
  have h2 := h.sum
  have := sumMin_lt qs (T * hold) hold hq (by omega) hh
  omega
theorem tokIn_le {lim k : Nat} : ∀ (m : Nat) (l o : List Int), o.length ≤ lim → (tokIn lim k m l o).2.length ≤ lim
  | 0, _, _, h => h
  | m + 1, l, o, h => by
    unfold tokIn; split
    · exact tokIn_le m _ _ (by simp; omega)
    · exact h
theorem tokIn_len1 {lim k : Nat} : ∀ (m : Nat) (l o : List Int), (tokIn lim k m l o).1.length = l.length
  | 0, _, _ => rfl
  | m + 1, l, o => by
    unfold tokIn; split
    · rw [tokIn_len1 m]; simp
    · rfl
theorem Lf.le9 {qs l o : List Int} (h : Lf qs l o) (hq : okQ qs = true) : ∀ x ∈ l, 0 ≤ x ∧ x ≤ 9 := fun x hx => by
  refine ⟨h.nn x hx, ?_⟩
  obtain ⟨k, hk⟩ := List.mem_iff_getElem?.1 hx
  have hkl : k < qs.length := by have := (List.getElem?_eq_some_iff.1 hk).1; rw [h.len] at this; exact this
  have h1 := h.at_ k hkl
  have h2 := okQ_iff.1 hq _ (gq_mem hkl)
  have h3 : gq l k = x := by simp [gq, hk]
  omega
theorem tokIn_stop {lim k m : Nat} {l o : List Int} (h : ¬ (0 < gq l k ∧ o.length < lim)) : tokIn lim k m l o = (l, o) := by
  cases m with
  | zero => rfl
  | succ m => rw [tokIn, if_neg h]
theorem tokIn_go {lim k m : Nat} {l o : List Int} (h : 0 < gq l k ∧ o.length < lim) (hm : 0 < m) : tokIn lim k m l o = tokIn lim k (m - 1) (l.set k (gq l k - 1)) (o ++ [(k : Int)]) := by
  obtain ⟨j, rfl⟩ : ∃ j, m = j + 1 := ⟨m - 1, by omega⟩
  rw [tokIn, if_pos h]; rfl
theorem tokRow_go {lim hold k m : Nat} {l o : List Int} (hm : 0 < m) : tokRow lim hold k m l o = tokRow lim hold (k + 1) (m - 1) (tokIn lim k hold l o).1 (tokIn lim k hold l o).2 := by
  obtain ⟨j, rfl⟩ : ∃ j, m = j + 1 := ⟨m - 1, by omega⟩
  rfl
/-- How many slots there were. -/
def slotsAt (w : World) (R : Nat) : Nat := match w.cell? ⟨R, 2, none⟩ with
  | some (.int _ z) => z.toNat
  | _ => 0
theorem slotsAt_row {w : World} {R : Nat} {A : Option Addr} {n c : Nat} {h : Int} {s : Nat} {d : Bool} (k : RunRow w R A n c h s d) : slotsAt w R = s := by unfold slotsAt; rw [k.cells.2.2.1]; simp
/-- What lies in memory while stations send in turn: what is left, and what came of them. -/
structure TokW (wr : World) (lo R : Nat) (AL : Option Addr) (n cl : Nat) (l o : List Int) : Prop where
  left : Own wr lo 3 AL n cl (ints .i64 l)
  run : ∃ A c, RunRow wr R A o.length c 0 (o.length : Int) false ∧ Own wr lo 3 A o.length c (ints .i64 o) ∧ ∀ a a2, A = some a → AL = some a2 → a.block ≠ a2.block
  ge : lo ≤ R

set_option maxRecDepth 100000 in
set_option maxHeartbeats 8000000 in
theorem specRunToken_w {A : Option Addr} {n c : Nat} {qs : List Int} {hold sl : Int} {w : World} (h : Has w A n (ints .i64 qs)) (hn : n ≤ 16777216) :
    Calls Try.prog 28 #[.slice A n c, .int .i64 hold, .int .i64 sl] w fun e w' => RunR w w' e (tokO qs hold sl) 0 (tokO qs hold sl).length (tokD qs hold sl) (tokOk qs hold sl) := by
  obtain ⟨i0, hi, hz0, hz1, hz2⟩ := info_parts Try.infoInt
  have HL := Lib.hid h.len
  have hlen := h.len
  obtain ⟨W0, hW0⟩ : ∃ W0, w.alloc (.cells #[.slice none 0 0, .int .i64 0, .int .i64 0, .bool false] 27) = W0 := ⟨_, rfl⟩
  have K0 : RunRow W0 w.heap.size none 0 0 0 0 false := by rw [← hW0]; exact heap_alloc_new w _
  have B0 : Below w.heap.size w W0 := by rw [← hW0]; exact (Below.refl _ _).alloc (Nat.le_refl _) _
  have S0 := Lib.hid (show W0.heap.size = w.heap.size + 1 by rw [← hW0]; simp)
  have sle : w.heap.size ≤ W0.heap.size := B0.size
  have HW0 := Lib.hid hW0
  have h0 := h.bel B0
  obtain ⟨k0, k1, k2, k3⟩ := K0.cells
  have f0 := K0.open_ 0
  have f1 := K0.open_ 1
  have f2 := K0.open_ 2
  have f3 := K0.open_ 3
  -- nothing
  have bad : tokOk qs hold sl = false → ∀ W, RunRow W w.heap.size none 0 0 0 0 false → Below w.heap.size w W → RunR w W (.returned (.tuple #[.agg #[.slice none 0 0, .int .i64 0, .int .i64 0, .bool false], .bool false])) (tokO qs hold sl) 0 (tokO qs hold sl).length (tokD qs hold sl) (tokOk qs hold sl) := fun hb W _ hB => by
    rw [tokO_no hb, hb]
    refine ⟨none, 0, 0, ?_, World.ownsRow_nil _ _ _ _, hB⟩
    unfold tokD; rw [hb]; rfl
  have BAD := Lib.hid bad
  clear bad
  by_cases hb : talkOk qs = true
  rotate_left
  · have hbf : talkOk qs = false := by simpa using hb
    have C := Lib.hid (specTalkValid_b (c := c) (b := false) h0 hn hbf)
    have HF := Lib.hid (BAD.out (by unfold tokOk turnsOk; rw [hbf]; rfl))
    clear hb hbf
    go_enter Try.func28, Try.ntmps28
    go_wp2_with (fail)
    refine C.out.mono ?_
    rintro e w' ⟨rfl, rfl⟩
    go_wp2
    refine bodyPost_ret (results_row_tmp rfl _ _ _ _ _ _ _ rfl (K0.put none 0 0 0 0 false) Try.underlying27 rfl (by kernel_rfl)) rfl ?_
    exact HF.out _ (K0.put none 0 0 0 0 false) ((((B0.setCell (Nat.le_refl _) _).setCell (Nat.le_refl _) _).setCell (Nat.le_refl _) _).setCell (Nat.le_refl _) _)
  have C := Lib.hid (specTalkValid_b (c := c) h0 hn hb)
  by_cases hh : 1 ≤ hold ∧ hold ≤ 9
  rotate_left
  · have C2 := Lib.hid (l1In_no hold 1 9 W0 hh)
    have HF := Lib.hid (BAD.out (by
      cases ht : tokOk qs hold sl with
      | false => rfl
      | true => exact absurd (turnsOk_iff.1 (tokOk_iff.1 ht).1).2 hh))
    clear hb hh
    go_enter Try.func28, Try.ntmps28
    go_wp2_with (fail)
    refine C.out.mono ?_
    rintro e w' ⟨rfl, rfl⟩
    go_wp2_with (fail)
    refine C2.out.mono ?_
    rintro e w' ⟨rfl, rfl⟩
    go_wp2
    refine bodyPost_ret (results_row_tmp rfl _ _ _ _ _ _ _ rfl (K0.put none 0 0 0 0 false) Try.underlying27 rfl (by kernel_rfl)) rfl ?_
    exact HF.out _ (K0.put none 0 0 0 0 false) ((((B0.setCell (Nat.le_refl _) _).setCell (Nat.le_refl _) _).setCell (Nat.le_refl _) _).setCell (Nat.le_refl _) _)
  have C2 := Lib.hid (l1In_yes hold 1 9 W0 hh.1 hh.2)
  by_cases hs : 0 ≤ sl ∧ sl ≤ 2000
  rotate_left
  · have C3 := Lib.hid (l1In_no sl 0 2000 W0 hs)
    have HF := Lib.hid (BAD.out (by
      cases ht : tokOk qs hold sl with
      | false => rfl
      | true => exact absurd (tokOk_iff.1 ht).2 hs))
    clear hb hh hs
    go_enter Try.func28, Try.ntmps28
    go_wp2_with (fail)
    refine C.out.mono ?_
    rintro e w' ⟨rfl, rfl⟩
    go_wp2_with (fail)
    refine C2.out.mono ?_
    rintro e w' ⟨rfl, rfl⟩
    go_wp2_with (fail)
    refine C3.out.mono ?_
    rintro e w' ⟨rfl, rfl⟩
    go_wp2
    refine bodyPost_ret (results_row_tmp rfl _ _ _ _ _ _ _ rfl (K0.put none 0 0 0 0 false) Try.underlying27 rfl (by kernel_rfl)) rfl ?_
    exact HF.out _ (K0.put none 0 0 0 0 false) ((((B0.setCell (Nat.le_refl _) _).setCell (Nat.le_refl _) _).setCell (Nat.le_refl _) _).setCell (Nat.le_refl _) _)
  have C3 := Lib.hid (l1In_yes sl 0 2000 W0 hs.1 hs.2)
  have HV := Lib.hid (tokOk_iff.2 ⟨turnsOk_iff.2 ⟨hb, hh⟩, hs⟩)
  have HQ := Lib.hid (talkOk_iff.1 hb).1
  have hn6 : n ≤ 6 := by have := (talkOk_iff.1 hb).2; omega
  obtain ⟨H, rfl⟩ := Int.eq_ofNat_of_zero_le (show 0 ≤ hold by omega)
  obtain ⟨L, rfl⟩ := Int.eq_ofNat_of_zero_le hs.1
  have hH1 : 1 ≤ H := by omega
  have hH9 : H ≤ 9 := by omega
  have hL2 : L ≤ 2000 := by omega
  rw [HV.out]
  clear hb hh hs BAD hlen
  go_enter Try.func28, Try.ntmps28
  go_wp2_with (fail)
  refine C.out.mono ?_
  rintro e w' ⟨rfl, rfl⟩
  go_wp2_with (fail)
  refine C2.out.mono ?_
  rintro e w' ⟨rfl, rfl⟩
  go_wp2_with (fail)
  refine C3.out.mono ?_
  rintro e w' ⟨rfl, rfl⟩
  go_wp2_with (at_builtin; refine wpList_app_has _ rfl (.tmp 26) (.tmp 27) 23 rfl w.heap.size 3 i0 (.int .i64 0) 8 Try.underlying23 hi hz0 hz1 hz2 rfl (some ⟨W0.heap.size, 0, none⟩) 0 0 [] rfl (World.ownsRow_lit W0 #[] 0 sle (by unfold maxLen; omega) rfl) A n c (ints .i64 qs) rfl (h0.bel (lit_below W0)) (ints_oneCell _ _) (by omega) (by decide) (by simp; omega) ?_; intro AL cl w3 O3 G3 B3; rw [Nat.zero_add, List.nil_append] at O3)
  have K3 : RunRow w3 w.heap.size none 0 0 0 0 false := (K0.bel (lit_below W0)).grown G3 (by simp; have := S0.out; omega)
  have E3 : Below w.heap.size w w3 := (B0.trans ((lit_below W0).mono sle)).trans B3
  have sle3 : w.heap.size < w3.heap.size := by have h1 := G3.size; have h2 := S0.out; simp at h1; omega
  obtain ⟨W4, hW4⟩ : ∃ W4, (w3.alloc (.cells #[] 3)).alloc (.cells #[.slice (some ⟨w3.heap.size, 0, none⟩) 0 0, .int .i64 0, .int .i64 0, .bool false] 27) = W4 := ⟨_, rfl⟩
  have E34 : Below w3.heap.size w3 W4 := by rw [← hW4]; exact ((Below.refl _ _).alloc (Nat.le_refl _) _).alloc (by simp) _
  have K4 : RunRow W4 w.heap.size none 0 0 0 0 false := K3.bel E34
  have OL4 := O3.bel E34
  obtain ⟨R, hR⟩ : ∃ R, w3.heap.size + 1 = R := ⟨_, rfl⟩
  have KR4 : RunRow W4 R (some ⟨w3.heap.size, 0, none⟩) 0 0 0 0 false := by
    rw [← hR, ← hW4]
    have := heap_alloc_new (w3.alloc (.cells #[] 3)) (.cells #[.slice (some ⟨w3.heap.size, 0, none⟩) 0 0, .int .i64 0, .int .i64 0, .bool false] 27)
    simpa [RunRow] using this
  have OO4 : Own W4 w.heap.size 3 (some ⟨w3.heap.size, 0, none⟩) 0 0 (ints .i64 []) := by
    rw [← hW4]; exact (lit_own' (w := w) (wr := w3) (by omega)).bel ((Below.refl _ _).alloc (Nat.le_refl _) _)
  have TW4 : TokW W4 w.heap.size R AL n cl qs [] := ⟨OL4, ⟨_, _, KR4, OO4, fun a a2 e1 e2 => by
    injection e1 with e1; subst e1
    have := O3.lt a2 e2
    show w3.heap.size ≠ a2.block
    omega⟩, by omega⟩
  have E4 := E3.trans (E34.mono (by omega))
  have hRw : R ≠ w.heap.size := by omega
  have HLF := Lib.hid (lf_init qs HQ.out)
  rw [hW4, hR]
  have hR0 := Lib.hid hR
  clear hR hW4 hW0 KR4 OO4 OL4 K3 E3 G3 B3 O3 E34 k0 k1 k2 k3 f0 f1 f2 f3 sle3
  go_loopw [10, 11] (fun _ _ wr => ∃ (T : Nat) (l o : List Int), Hid (Lf qs l o) ∧ Hid (o = (orderTo qs H T).take L) ∧ TokW wr w.heap.size R AL n cl l o ∧ RunRow wr w.heap.size none 0 0 0 0 false ∧ Below w.heap.size w wr) (fun _ _ wr => L - slotsAt wr R)
  case atStart => exact ⟨0, qs, [], HLF, Lib.hid (by simp [orderTo]), TW4, K4, E4⟩
  case round =>
    obtain ⟨T, l, o, HF, HO, TW, KB, BW⟩ := hrel
    obtain ⟨OL, ⟨AO, cO, KR, OO, hne⟩, hgeR⟩ := TW
    obtain ⟨k0, k1, k2, k3⟩ := KR.cells
    have f0 := KR.open_ 0
    have f2 := KR.open_ 2
    have f3 := KR.open_ 3
    obtain ⟨b0, b1, b2, b3⟩ := KB.cells
    have e0 := KB.open_ 0
    have e1 := KB.open_ 1
    have e2 := KB.open_ 2
    have e3 := KB.open_ 3
    have hoL : o.length ≤ L := by rw [HO.out, List.length_take]; omega
    obtain ⟨S, hS⟩ : ∃ S, l.sum = S := ⟨_, rfl⟩
    have CS := Lib.hid (l9Sum_any (c := cl) OL.has hn6 (HF.out.le9 HQ.out))
    have HS := Lib.hid hS
    rw [hS] at CS
    obtain ⟨q, hq⟩ : ∃ q, o.length = q := ⟨_, rfl⟩
    rw [hq] at hoL k0 k2 OO KR
    have HQL := Lib.hid hq
    clear hS hq
    by_cases hgo : q < L ∧ 0 < S
    rotate_left
    · have HE := Lib.hid (tok_end HV.out HF.out (by simpa using HO.out) (by rw [HQL.out, HS.out]; omega))
      have fin : ∀ W : World, RunRow W R AO q cO 0 q (decide (S = 0)) → Own W w.heap.size 3 AO q cO (ints .i64 o) → RunRow W w.heap.size none 0 0 0 0 false → Below w.heap.size w W → RunR w ((((W.setCell ⟨w.heap.size, 0, none⟩ (.slice AO q cO)).setCell ⟨w.heap.size, 1, none⟩ (.int .i64 0)).setCell ⟨w.heap.size, 2, none⟩ (.int .i64 q)).setCell ⟨w.heap.size, 3, none⟩ (.bool (decide (S = 0)))) (.returned (.tuple #[.agg #[.slice AO q cO, .int .i64 0, .int .i64 q, .bool (decide (S = 0))], .bool true])) (tokO qs H L) 0 (tokO qs H L).length (tokD qs H L) true := fun W kR kO kB kW => by
        obtain ⟨x1, x2⟩ := HE.out
        rw [HS.out] at x2
        refine ⟨AO, q, cO, ret_run rfl (by rw [← x1, HQL.out]) x2 rfl, ?_, (((kW.setCell (Nat.le_refl _) _).setCell (Nat.le_refl _) _).setCell (Nat.le_refl _) _).setCell (Nat.le_refl _) _⟩
        rw [← x1]
        exact own_set (own_set (own_set (own_set kO kB (by decide) 0 _) (kB.order _ _ _) (by decide) 1 _) ((kB.order _ _ _).hits _) (by decide) 2 _) (((kB.order _ _ _).hits _).slots _) (by decide) 3 _
      have FIN := Lib.hid fin
      clear fin
      have hSB : (S == 0) = decide (S = 0) := by
        by_cases h0 : S = 0 <;> simp [h0]
      obtain ⟨bd, hbd⟩ : ∃ bd, decide (S = 0) = bd := ⟨_, rfl⟩
      rw [hbd] at FIN hSB
      have KRd := KR.done bd
      have KBd : RunRow (wr.setCell ⟨R, 3, none⟩ (.bool bd)) w.heap.size none 0 0 0 0 false := KB.grown (one_grown9 wr R 3 _) (by simp; omega)
      have OOd := own_set OO KR (by decide) 3 (.bool bd)
      have BWd := BW.setCell (p := ⟨R, 3, none⟩) hgeR (.bool bd)
      obtain ⟨r0, r1, r2, r3⟩ := KRd.cells
      obtain ⟨d0, d1, d2, d3⟩ := KBd.cells
      have q0 := KBd.open_ 0
      have q1 := KBd.open_ 1
      have q2 := KBd.open_ 2
      have q3 := KBd.open_ 3
      clear b0 b1 b2 b3 e0 e1 e2 e3 hbd
      by_cases hq : q < L
      · have hS0 : ¬ 0 < S := fun hh => hgo ⟨hq, hh⟩
        have g1 : decide ((q : Int) < (L : Int)) = true := by simp; omega
        have gN : decide (q < L) = true := by simp; omega
        have g2 : decide (S > 0) = false := by simp; omega
        have g3 : decide (0 < S) = false := by simp; omega
        clear hgo hq hS0
        go_wp2_with (fail)
        refine CS.out.mono ?_
        rintro e w' ⟨rfl, rfl⟩
        go_wp2_with (fail)
        refine CS.out.mono ?_
        rintro e w' ⟨rfl, rfl⟩
        go_wp2
        refine bodyPost_ret (results_row_tmp rfl _ _ _ _ _ _ _ rfl (KBd.put AO q cO 0 q bd) Try.underlying27 rfl (by kernel_rfl)) rfl ?_
        exact FIN.out _ KRd OOd KBd BWd
      · have g1 : decide ((q : Int) < (L : Int)) = false := by simp; omega
        have gN : decide (q < L) = false := by simp; omega
        clear hgo hq
        go_wp2_with (fail)
        refine CS.out.mono ?_
        rintro e w' ⟨rfl, rfl⟩
        go_wp2
        refine bodyPost_ret (results_row_tmp rfl _ _ _ _ _ _ _ rfl (KBd.put AO q cO 0 q bd) Try.underlying27 rfl (by kernel_rfl)) rfl ?_
        exact FIN.out _ KRd OOd KBd BWd
    have g1 : decide ((q : Int) < (L : Int)) = true := by simp; omega
    have gN : decide (q < L) = true := by simp; omega
    have g2 : decide (S > 0) = true := by simp; omega
    have g3 : decide (0 < S) = true := by simp; omega
    have HG := Lib.hid hgo
    have TW0 : TokW wr w.heap.size R AL n cl l o := ⟨OL, ⟨AO, cO, by rw [HQL.out]; exact KR, by rw [HQL.out]; exact OO, hne⟩, hgeR⟩
    have HGR := Lib.hid (tok_grows (lim := L) (fun x hx => (okQ_iff.1 HQ.out x hx).1) HF.out HO.out (by rw [HQL.out]; exact hgo.1) (by rw [HS.out]; exact hgo.2) hH1)
    have HTN := Lib.hid (tokRow_turn (lim := L) (hold := H) HF.out HO.out)
    have HSL := Lib.hid (slotsAt_row KR)
    have HOL := Lib.hid (show o.length ≤ L by rw [HQL.out]; exact hoL)
    clear hgo
    go_wp2_with (fail)
    refine CS.out.mono ?_
    rintro e w' ⟨rfl, rfl⟩
    clear k0 k1 k2 k3 f0 f2 f3 b0 b1 b2 b3 e0 e1 e2 e3
    go_wp2
    go_loopw [10, 11] (fun a _ ws => ∃ (k : Nat) (l1 o1 : List Int), k ≤ n ∧ a = .int .i64 (k : Int) ∧ Hid (Lf qs l1 o1) ∧ Hid (tokRow L H k (n - k) l1 o1 = tokRow L H 0 qs.length l o) ∧ Hid (o1.length ≤ L) ∧ TokW ws w.heap.size R AL n cl l1 o1 ∧ RunRow ws w.heap.size none 0 0 0 0 false ∧ Below w.heap.size w ws) (fun a _ _ => n - (intOf a).toNat)
    case atStart => exact ⟨0, l, o, Nat.zero_le _, rfl, HF, Lib.hid (by rw [HL.out]; rfl), HOL, TW0, KB, BW⟩
    case round =>
      obtain ⟨k, l1, o1, hk, rfl, HF1, HT1, HL1, TW1, KB1, BW1⟩ := hrel
      by_cases hkn : k < n
      rotate_left
      · have hkB : decide ((k : Int) < (n : Int)) = false := by simp; omega
        have hkN : decide (k < n) = false := by simp; omega
        obtain rfl : k = n := by omega
        have hpair : (l1, o1) = tokRow L H 0 qs.length l o := by have := HT1.out; rw [Nat.sub_self] at this; exact this
        have e1 : l1 = (tokRow L H 0 qs.length l o).1 := by rw [← hpair]
        have e2 : o1 = (tokRow L H 0 qs.length l o).2 := by rw [← hpair]
        have x1 := HTN.out
        have x2 := HGR.out
        rw [← e1, ← e2] at x1
        rw [← e2] at x2
        obtain ⟨AO1, cO1, KR1, OO1, hne1⟩ := TW1.run
        have HM : Hid (L - slotsAt wr R < L - q) := by
          have h1 := slotsAt_row KR1
          have h2 := HQL.out
          have h3 := HL1.out
          have : L - slotsAt wr R < L - q := by omega
          exact this
        have X1 := Lib.hid x1.1
        have X2 := Lib.hid x1.2
        clear x1 x2 hpair e1 e2 KR1 OO1 hne1
        go_wp2
        go_roundw
        case rel => exact ⟨T + 1, l1, o1, X1, X2, TW1, KB1, BW1⟩
        case measure => have h1 := HM.out; have h2 := HSL.out; omega
      · have hkB : decide ((k : Int) < (n : Int)) = true := by simp; omega
        have hkN : decide (k < n) = true := by simp; omega
        have HKN := Lib.hid hkn
        have HT2 := Lib.hid (show tokRow L H (k + 1) (n - (k + 1)) (tokIn L k H l1 o1).1 (tokIn L k H l1 o1).2 = tokRow L H 0 qs.length l o by
          have := HT1.out
          rw [tokRow_go (by omega)] at this
          rw [show n - (k + 1) = n - k - 1 by omega]; exact this)
        obtain ⟨gL, rfl, hgL0, hgL1⟩ := TW1.left.head (by omega)
        go_wp2
        go_loopw [11] (fun b ws => ∃ (i : Nat) (l2 o2 : List Int), i ≤ H ∧ b = .int .i64 (i : Int) ∧ Hid (Lf qs l2 o2) ∧ Hid (tokIn L k (H - i) l2 o2 = tokIn L k H l1 o1) ∧ Hid (o2.length ≤ L) ∧ TokW ws w.heap.size R (some ⟨gL, 0, none⟩) n cl l2 o2 ∧ RunRow ws w.heap.size none 0 0 0 0 false ∧ Below w.heap.size w ws) (fun b _ => H - (intOf b).toNat)
        case atStart => exact ⟨0, l1, o1, Nat.zero_le _, rfl, HF1, Lib.hid rfl, HL1, TW1, KB1, BW1⟩
        case round =>
          obtain ⟨i, l2, o2, hi9, rfl, HF2, HI2, HL2, TW2, KB2, BW2⟩ := hrel
          obtain ⟨OL2, ⟨AO2, cO2, KR2, OO2, hne2⟩, hgeR2⟩ := TW2
          obtain ⟨k0, k1, k2, k3⟩ := KR2.cells
          have f0 := KR2.open_ 0
          have f2 := KR2.open_ 2
          have hlen2 := HF2.out.len
          obtain ⟨u, hu, hd, hf⟩ := OL2.at_ (k := k) HKN.out
          obtain ⟨v, hv⟩ : ∃ v, gq l2 k = v := ⟨_, rfl⟩
          have hkl : k < l2.length := by rw [hlen2, HL.out]; exact HKN.out
          have hu2 : u = .int .i64 v := by
            rw [ints_at _ _ _ hkl] at hu
            injection hu with hu
            rw [← hu, ← hv]; rfl
          subst hu2
          have hv9 := HF2.out.le9 HQ.out v (by rw [← hv]; exact gq_mem hkl)
          obtain ⟨q2, hq2⟩ : ∃ q2, o2.length = q2 := ⟨_, rfl⟩
          rw [hq2] at k0 k2 OO2 KR2
          have hq2L : q2 ≤ L := by rw [← hq2]; exact HL2.out
          have HQ2 := Lib.hid hq2
          have HVV := Lib.hid hv
          have hgR : gL ≠ R := fun e => own_run OL2 KR2 (by rw [e]; rfl)
          have hgw : gL ≠ w.heap.size := fun e => own_run OL2 KB2 (by rw [e]; rfl)
          clear hu hkl hq2 hv hlen2
          have done : ¬ (i < H ∧ 0 < v ∧ q2 < L) → Hid (tokRow L H (k + 1) (n - (k + 1)) l2 o2 = tokRow L H 0 qs.length l o) := fun hno => by
            have h1 : tokIn L k (H - i) l2 o2 = (l2, o2) := by
              by_cases hiH : i < H
              · exact tokIn_stop (fun hh => hno ⟨hiH, by rw [← HVV.out]; exact hh.1, by rw [← HQ2.out]; exact hh.2⟩)
              · rw [show H - i = 0 by omega]; rfl
            have h2 := HT2.out
            rw [← HI2.out, h1] at h2
            exact h2
          have DN := Lib.hid done
          clear done
          have TW3 : TokW wr w.heap.size R (some ⟨gL, 0, none⟩) n cl l2 o2 := ⟨OL2, ⟨AO2, cO2, by rw [HQ2.out]; exact KR2, by rw [HQ2.out]; exact OO2, hne2⟩, hgeR2⟩
          have kW : IntKind.i64.wrap ((k : Int) + 1) = ((k + 1 : Nat) : Int) := by rw [IntWalk.i64_in _ (by omega)]; omega
          by_cases hiH : i < H
          rotate_left
          · have i1 : decide ((i : Int) < (H : Int)) = false := by simp; omega
            have i2 : decide (i < H) = false := by simp; omega
            have D := DN.out (fun hh => hiH hh.1)
            clear hiH
            go_wp2
            go_roundw
            case rel => exact ⟨k + 1, l2, o2, HKN.out, by simp, HF2, D, HL2, TW3, KB2, BW2⟩
            case measure => have := HKN.out; simp [intOf]; omega
          have i1 : decide ((i : Int) < (H : Int)) = true := by simp; omega
          have i2 : decide (i < H) = true := by simp; omega
          by_cases hvp : 0 < v
          rotate_left
          · have v1 : decide (v > 0) = false := by simp; omega
            have v2 : decide (0 < v) = false := by simp; omega
            have D := DN.out (fun hh => hvp hh.2.1)
            clear hvp
            go_wp2
            go_roundw
            case rel => exact ⟨k + 1, l2, o2, HKN.out, by simp, HF2, D, HL2, TW3, KB2, BW2⟩
            case measure => have := HKN.out; simp [intOf]; omega
          have v1 : decide (v > 0) = true := by simp; omega
          have v2 : decide (0 < v) = true := by simp; omega
          by_cases hqL : q2 < L
          rotate_left
          · have z1 : decide ((q2 : Int) < (L : Int)) = false := by simp; omega
            have z2 : decide (q2 < L) = false := by simp; omega
            have D := DN.out (fun hh => hqL hh.2.2)
            clear hqL
            go_wp2
            go_roundw
            case rel => exact ⟨k + 1, l2, o2, HKN.out, by simp, HF2, D, HL2, TW3, KB2, BW2⟩
            case measure => have := HKN.out; simp [intOf]; omega
          have z1 : decide ((q2 : Int) < (L : Int)) = true := by simp; omega
          have z2 : decide (q2 < L) = true := by simp; omega
          have HF3 := Lib.hid (HF2.out.step (by rw [HL.out]; exact HKN.out) (by rw [HVV.out]; exact hvp))
          have HI3 := Lib.hid (show tokIn L k (H - (i + 1)) (l2.set k (gq l2 k - 1)) (o2 ++ [(k : Int)]) = tokIn L k H l1 o1 by
            have := HI2.out
            rw [tokIn_go ⟨by rw [HVV.out]; exact hvp, by rw [HQ2.out]; exact hqL⟩ (by omega)] at this
            rw [show H - (i + 1) = H - i - 1 by omega]; exact this)
          have vW : IntKind.i64.wrap (v - 1) = v - 1 := IntWalk.i64_in _ (by omega)
          have qW : IntKind.i64.wrap ((q2 : Int) + 1) = ((q2 + 1 : Nat) : Int) := by rw [IntWalk.i64_in _ (by omega)]; omega
          have iW : IntKind.i64.wrap ((i : Int) + 1) = ((i + 1 : Nat) : Int) := by rw [IntWalk.i64_in _ (by omega)]; omega
          have OL3 := OL2.set_ k (.int .i64 (v - 1))
          rw [ints_set] at OL3
          obtain ⟨w5, hw5⟩ : ∃ w5, wr.setCell ⟨gL, k, none⟩ (.int .i64 (v - 1)) = w5 := ⟨_, rfl⟩
          have G5 : wr.grownBy w5 (some gL) := by rw [← hw5]; exact one_grown9 wr gL k _
          have KR3 := KR2.grown G5 (by simp; exact hgR)
          have KB3 := KB2.grown G5 (by simp; exact hgw)
          have OO3 := OO2.grown G5 (fun a ha e => by injection e with e; exact hne2 a _ ha rfl e)
          have BW3 : Below w.heap.size w w5 := by rw [← hw5]; exact BW2.setCell (p := ⟨gL, k, none⟩) hgL0 _
          rw [hw5] at OL3
          have s5 : w.heap.size ≤ w5.heap.size := BW3.size
          obtain ⟨m0, m1, m2, m3⟩ := KR3.cells
          have p0 := KR3.open_ 0
          have p2 := KR3.open_ 2
          clear hvp hqL hiH G5
          go_wp2_with (at_builtin; refine wpList_apps _ rfl (.tmp 73) (.tmp 75) 23 rfl w.heap.size 3 i0 (.int .i64 0) 8 Try.underlying23 hi hz0 hz1 hz2 rfl AO2 q2 cO2 _ rfl OO3 1 1 #[.int .i64 (k : Int)] rfl rfl (by simp [Value.oneCell']) (by decide) (by omega) (by decide) s5 ?_; intro g6 c6 w6 O6 G6 B6 E6; have KR6 := KR3.grown G6 (own_run OO3 KR3); obtain ⟨r0, r1, r2, r3⟩ := KR6.cells; have t0 := KR6.open_ 0; have t2 := KR6.open_ 2; have KR7 := KR6.order (some ⟨g6, 0, none⟩) (q2 + 1) c6; obtain ⟨x0, x1, x2, x3⟩ := KR7.cells; have y2 := KR7.open_ 2)
          go_roundw
          case rel =>
            have KB6 := KB3.grown G6 (own_run OO3 KB3)
            have KB7 := KB6.grown (one_grown9 w6 R 0 (.slice (some ⟨g6, 0, none⟩) (q2 + 1) c6)) (by simp; omega)
            have hne3 : g6 ≠ gL := by
              rcases E6 with e | e
              · cases AO2 with
                | none => cases e
                | some a => injection e with e; have := hne2 a _ rfl rfl; intro e2; exact this (e.trans e2)
              · have h9 : gL < w5.heap.size := OL3.block.2
                omega
            have OL6 := OL3.grown G6 (fun a ha e => by
              injection ha with ha; subst ha
              cases AO2 with
              | none => cases e
              | some a => injection e with e; exact hne2 a _ rfl rfl e.symm)
            have O6' : Own w6 w.heap.size 3 (some ⟨g6, 0, none⟩) (q2 + 1) c6 (ints .i64 (o2 ++ [(k : Int)])) := by rw [ints_app]; exact O6
            refine ⟨i + 1, _, _, (by have := of_decide_eq_true i2; omega), by go_num, HF3, HI3, Lib.hid (by have := HQ2.out; have h3 := of_decide_eq_true z2; simp; omega), ⟨?_, ⟨some ⟨g6, 0, none⟩, c6, ?_, ?_, ?_⟩, hgeR2⟩, ?_, ?_⟩
            · rw [HVV.out]
              exact own_set (own_set OL6 KR6 (by decide) 0 _) KR7 (by decide) 2 _
            · have h1 := HQ2.out
              rw [List.length_append, h1]
              have := KR7.slots ((q2 + 1 : Nat) : Int)
              simpa using this
            · have h1 := HQ2.out
              rw [List.length_append, h1]
              exact own_set (own_set O6' KR6 (by decide) 0 _) KR7 (by decide) 2 _
            · intro a a2 e1 e2
              injection e1 with e1; injection e2 with e2
              subst e1 e2; exact hne3
            · exact KB7.grown (one_grown9 _ R 2 _) (by simp; omega)
            · exact (BW3.trans B6).setCell (p := ⟨R, 0, none⟩) hgeR2 _ |>.setCell (p := ⟨R, 2, none⟩) hgeR2 _
          case measure => have := of_decide_eq_true i2; simp [intOf]; omega
end Go.Proofs.Ytpciaokafokfmaa
