/-
  Chapter 11's program, frames over several wires: what is proved here is what SpreadFrames returns, in memory of its own, and that it writes nothing that was there. Condition: lengths up to 2^24.
-/
import Derived.Test.YtimddobedgopiaaImp11d
import Derived.Test.YtimddobedgopiaaFlowC
import Derived.Maps.OwnSet
namespace Go.Proofs.Ytimddobedgopiaa
open Go.RowKit

/-- One slice of a list grows, and is put back. -/
theorem OwnVI.swap {w w' : World} {lo n c g g' k m d m' d' : Nat} {X : Option Addr} {vs : List Value} {zss : List (List Int)} {zs' : List Int} (h : OwnVI w lo (some ⟨g, 0, none⟩) n c vs zss) (hk : vs[k]? = some (.slice X m d)) (hkn : k < n) (hO : Own w' lo 3 (some ⟨g', 0, none⟩) m' d' (ints .i64 zs')) (hg : w.grownBy w' (X.map (·.block))) (hat : X.map (·.block) = some g' ∨ w.heap.size ≤ g') :
    (∃ u, w'.cell? ⟨g, k, none⟩ = some u ∧ w'.frozen? ⟨g, k, none⟩ = false) ∧ OwnLI (w'.setCell ⟨g, k, none⟩ (.slice (some ⟨g', 0, none⟩) m' d')) lo (some ⟨g, 0, none⟩) n c (zss.set k zs') := by
  have hin := h.inner
  have hgl : g < w.heap.size := h.1.block.2
  have hkl := (List.getElem?_eq_some_iff.1 hk).1
  have hl := h.2.1
  have hw : Own w' lo 33 (some ⟨g, 0, none⟩) n c vs := h.1.grown hg (fun a ha he => h.2.2.2.1 _ (List.mem_of_getElem? hk) a.block (map_block he.symm m d) (by rw [ha]; rfl))
  have hgg : g ≠ g' := fun e => by
    rcases hat with h1 | h1
    · exact h.2.2.2.1 _ (List.mem_of_getElem? hk) g' (map_block h1 m d) (by rw [← e]; rfl)
    · omega
  have hgr : w'.grownBy (w'.setCell ⟨g, k, none⟩ (.slice (some ⟨g', 0, none⟩) m' d')) (some g) := grown_set (World.grownBy.refl w' (some g)) k _
  have hnew : ∀ b, (Value.slice (some ⟨g', 0, none⟩) m' d').ownBlock = some b → b = g' := fun b hb => by simpa [Value.ownBlock] using hb.symm
  refine ⟨?_, vs.set k (.slice (some ⟨g', 0, none⟩) m' d'), hw.set_ k _, by simp [hl], fun i v zs2 hvi hzi => ?_, fun v hvm b hvb he => ?_, fun i j vi vj hij hvi hvj b hbi hbj => ?_⟩
  · obtain ⟨u, _, h1, h2⟩ := hw.at_ hkn
    exact ⟨u, h1, h2⟩
  · by_cases hik : i = k
    · subst hik
      rw [List.getElem?_set_self (by omega)] at hvi
      rw [List.getElem?_set_self (by omega)] at hzi
      injection hvi with hvi
      injection hzi with hzi
      subst hvi hzi
      refine ⟨_, m', d', rfl, hO.grown hgr (fun a ha he => ?_)⟩
      injection ha with ha
      subst ha
      injection he with he
      exact hgg he.symm
    · rw [List.getElem?_set_ne (by omega)] at hvi hzi
      obtain ⟨B, q, r, rfl, hB⟩ := h.2.2.1 i v zs2 hvi hzi
      have hB' : Own w' lo 3 B q r (ints .i64 zs2) := hB.grown hg (fun a ha he => by
        subst ha
        have hX := map_block he.symm m d
        rcases Nat.lt_or_ge i k with hlt | hge
        · exact h.2.2.2.2 i k _ _ hlt hvi hk a.block rfl hX
        · exact h.2.2.2.2 k i _ _ (by omega) hk hvi a.block hX rfl)
      refine ⟨B, q, r, rfl, hB'.grown hgr (fun a ha he => ?_)⟩
      subst ha
      exact h.2.2.2.1 _ (List.mem_of_getElem? hvi) a.block rfl he.symm
  · injection he with he
    have he' : g = b := he
    subst he'
    rcases List.mem_or_eq_of_mem_set hvm with hm | hm
    · exact h.2.2.2.1 v hm g hvb rfl
    · subst hm
      exact hgg (hnew g hvb)
  · have key : ∀ (i2 : Nat) (v2 : Value), i2 ≠ k → vs[i2]? = some v2 → v2.ownBlock ≠ some g' := fun i2 v2 hne hv2 hb2 => by
      rcases hat with h1 | h1
      · have hX := map_block h1 m d
        rcases Nat.lt_or_ge i2 k with hlt | hge
        · exact h.2.2.2.2 i2 k _ _ hlt hv2 hk g' hb2 hX
        · exact h.2.2.2.2 k i2 _ _ (by omega) hk hv2 g' hX hb2
      · have := (hin v2 (List.mem_of_getElem? hv2) g' hb2).2
        omega
    by_cases hik : i = k
    · subst hik
      rw [List.getElem?_set_self (by omega)] at hvi
      injection hvi with hvi
      subst hvi
      rw [List.getElem?_set_ne (by omega)] at hvj
      have := hnew b hbi
      subst this
      exact key j vj (by omega) hvj hbj
    · rw [List.getElem?_set_ne (by omega)] at hvi
      by_cases hjk : j = k
      · subst hjk
        rw [List.getElem?_set_self (by omega)] at hvj
        injection hvj with hvj
        subst hvj
        have := hnew b hbj
        subst this
        exact key i vi (by omega) hvi hbi
      · rw [List.getElem?_set_ne (by omega)] at hvj
        exact h.2.2.2.2 i j vi vj hij hvi hvj b hbi hbj
theorem OwnLI.at_ {w : World} {lo n c g k : Nat} {zss : List (List Int)} {zs : List Int} (h : OwnLI w lo (some ⟨g, 0, none⟩) n c zss) (hk : k < n) (hz : zss[k]? = some zs) :
    ∃ vs X m d, OwnVI w lo (some ⟨g, 0, none⟩) n c vs zss ∧ vs[k]? = some (.slice X m d) ∧ w.cell? ⟨g, k, none⟩ = some (.slice X m d) ∧ Own w lo 3 X m d (ints .i64 zs) := by
  obtain ⟨vs, hv⟩ := h
  obtain ⟨u, hu, h1, _⟩ := hv.1.at_ hk
  obtain ⟨X, m, d, rfl, hO⟩ := hv.2.2.1 k u zs hu hz
  exact ⟨vs, X, m, d, hv, hu, h1, hO⟩

set_option maxRecDepth 100000 in
set_option maxHeartbeats 4000000 in
theorem implSpreadFrames_w {A A' : Option Addr} {n c n' c' : Nat} {us : List Bool} {hs : List Hop3} {R : List (List Int)} {w : World} (h : Has w A n (bools us)) (h' : HasH w A' n' hs) (hn : n ≤ 16777216) (hn' : n' ≤ 16777216) (hR : spreadI us hs = R) :
    Calls Try.prog 32 #[.slice A n c, .slice A' n' c'] w fun e w' => ∃ A2 n2 c2 vs, e = .returned (.slice A2 n2 c2) ∧ OwnVI w' w.heap.size A2 n2 c2 vs R ∧ Below w.heap.size w w' := by
  obtain ⟨i0, hi, hz0, hz1, hz2⟩ := info_parts Try.infoInt
  obtain ⟨j0, hj, hy0, hy1, hy2⟩ := info_parts Try.infoSlI
  have HL := Lib.hid (has_bools_len h)
  have HH := Lib.hid h'.1
  have HRR := Lib.hid hR
  clear hR
  by_cases h1 : 1 ≤ n ∧ n ≤ 8
  rotate_left
  · have C1 := Lib.hid (bundleOf_b (A := A) (c := c) (w := w) hn (decide_eq_false h1))
    have HN := Lib.hid (HRR.out.symm.trans (show spreadI us hs = [] by unfold spreadI; rw [if_neg (fun hh => h1 (by have := hh.1; unfold upOk at this; rw [HL.out] at this; exact this))]))
    clear h1
    go_enter Try.func32, Try.ntmps32
    go_wp2_with (go_at_call 55; refine C1.out.mono ?_; rintro e w' ⟨rfl, rfl⟩)
    go_ret
    obtain ⟨vs, hv⟩ := ownLI_nil w w.heap.size
    exact ⟨_, _, _, vs, rfl, by rw [HN.out]; exact hv, Below.refl _ _⟩
  have C1 := Lib.hid (bundleOf_b (A := A) (c := c) (w := w) hn (decide_eq_true h1))
  have HU : Hid (upOk us) := by
    have : upOk us := by unfold upOk; rw [HL.out]; exact h1
    exact this
  have hn8 := h1.2
  by_cases h60 : n' ≤ 60
  rotate_left
  · have h6B : decide ((n' : Int) > 60) = true := by simp; omega
    have h6C : decide (60 < (n' : Int)) = true := by simp; omega
    have h6D : decide (60 < n') = true := by simp; omega
    have HN := Lib.hid (HRR.out.symm.trans (show spreadI us hs = [] by unfold spreadI; rw [if_neg (fun hh => by have := hh.2.1; rw [HH.out] at this; omega)]))
    clear h1 h60
    go_enter Try.func32, Try.ntmps32
    go_wp2_with (go_at_call 55; refine C1.out.mono ?_; rintro e w' ⟨rfl, rfl⟩)
    go_ret
    obtain ⟨vs, hv⟩ := ownLI_nil w w.heap.size
    exact ⟨_, _, _, vs, rfl, by rw [HN.out]; exact hv, Below.refl _ _⟩
  have h6B : decide ((n' : Int) > 60) = false := by simp; omega
  have h6C : decide (60 < (n' : Int)) = false := by simp; omega
  have h6D : decide (60 < n') = false := by simp; omega
  have HP := Lib.hid (show flowsTo hs n' = true → spreadTo (hopMem us hs) n n' = R from fun hf => HRR.out ▸ (show spreadTo (hopMem us hs) n n' = spreadI us hs by unfold spreadI; rw [if_pos ⟨HU.out, by rw [HH.out]; exact h60, by rw [HH.out]; exact hf⟩, HL.out, HH.out]))
  have HZ := Lib.hid (show flowsTo hs n' = false → R = [] from fun hf => HRR.out ▸ (show spreadI us hs = [] by unfold spreadI; rw [if_neg (fun hh => by have := hh.2.2; rw [HH.out, hf] at this; cases this)]))
  clear h1
  have bA := heap_alloc_new w (.cells #[.slice A n c] 67)
  have BA : Below w.heap.size w (w.alloc (.cells #[.slice A n c] 67)) := (Below.refl _ _).alloc (Nat.le_refl _) _
  have CC := Lib.hid (collectF_any bA (h.bel BA) hn8)
  rw [World.size_alloc] at CC
  clear bA
  go_enter Try.func32, Try.ntmps32
  go_wp2_with (go_at_call 55; refine C1.out.mono ?_; rintro e w' ⟨rfl, rfl⟩)
  refine (flows_made _).mono ?_
  rintro e w' ⟨rfl, rfl⟩
  go_wp2_with (fail)
  refine CC.out.mono ?_
  rintro e wC ⟨rfl, FM, BC⟩
  have hsC : w.heap.size + 1 < wC.heap.size := FM.lt
  have BwC : Below w.heap.size w wC := BA.trans (BC.mono (by omega))
  clear BC BA CC C1
  go_wp2_with (at_make; refine wpList_make_full _ rfl _ _ 42 rfl wC.heap.size 33 j0 (.slice none 0 0) 1 Try.underlying42 hj hy0 hy1 .i64 .i64 _ _ n rfl rfl rfl rfl (by rw [hy2]; omega) (by unfold maxLen; omega) (Nat.le_refl _) ?_; intro w3 hown hgrow)
  have hcap : (madeCells (Value.cells (.slice none 0 0)) (n * 1)).toList = List.replicate n (.slice none 0 0) := by
    rw [Nat.mul_one]; exact toList_madeCells_one _ _
  have hown0 : Own w3 wC.heap.size 33 (some ⟨wC.heap.size, 0, none⟩) n n (List.replicate n (.slice none 0 0)) := by unfold Own; rw [← hcap]; exact hown
  have hL0 := ownLI_made hown0
  have b0 : Below wC.heap.size wC w3 := below_of_grown hgrow (Nat.le_refl _) (fun k hk => by cases hk)
  clear hown hgrow hcap hown0
  go_loopw [33] (fun i wr => ∃ k : Nat, k ≤ n' ∧ i = .int .i64 (k : Int) ∧ Hid (flowsTo hs k = true) ∧ OwnLI wr wC.heap.size (some ⟨wC.heap.size, 0, none⟩) n n (spreadTo (hopMem us hs) n k) ∧ Below wC.heap.size wC wr) (fun i _ => n' - (intOf i).toNat)
  case atStart =>
    have : Hid (flowsTo hs 0 = true) := rfl
    exact ⟨0, Nat.zero_le _, rfl, this, by rw [spreadTo_zero]; exact hL0, b0⟩
  case round =>
    obtain ⟨k, hk, rfl, HF, OL, Bw⟩ := hrel
    have swr := Bw.size
    by_cases hlt : k < n'
    · have hltB : decide ((k : Int) < (n' : Int)) = true := by simp; omega
      obtain ⟨bb, o, f, t, p, rfl, hbb, hx, d0, d1, d2⟩ := (h'.bel (BwC.trans (Bw.mono (by omega)))).at_ hlt
      have hk0 : (0 : Int) ≤ (k : Int) := by omega
      have hk1 : (k : Int) < (n' : Int) := by omega
      have hH := heap_alloc_new wr (.cells #[.int .i64 f, .int .i64 t, .int .i64 p] 46)
      have BX := (Below.refl wr.heap.size wr).alloc (Nat.le_refl _) (.cells #[.int .i64 f, .int .i64 t, .int .i64 p] 46)
      have hxf := hopFlow_at hx
      have hfb := flowI_bounds f t
      have hfn := flowI_neg (a := f) (b := t)
      obtain ⟨x, hxx⟩ : ∃ x, flowI f t = x := ⟨_, rfl⟩
      rw [hxx] at hxf hfb hfn
      have CF := Lib.hid (fun W : World => implFlowOf_r (w := W) hxx)
      generalize hWA : wr.alloc (.cells #[.int .i64 f, .int .i64 t, .int .i64 p] 46) = WA at hH BX
      obtain ⟨x0, x1, x2⟩ := cells3 hH
      have sX := BX.size
      have BwX := Bw.trans (BX.mono swr)
      have OX := OL.bel BX
      obtain ⟨D, hown, hP⟩ := FM.block (BwX.block _ hsC)
      have hkey : keyOf Try.prog 3 (.int .i64 x) = some (.int .i64 x) := Maps.keyOf_int_mk Try.underlying3 (i64_wfF (by omega))
      have hH0 := heap_alloc_new wr (.cells #[.int .i64 0, .int .i64 0, .int .i64 0] 46)
      obtain ⟨y0, y1, y2⟩ := cells3 hH0
      clear hH0 hx hxx hH
      by_cases hneg : x < 0
      · obtain rfl := hfn hneg
        have HN := Lib.hid (HZ.out (flowsTo_not (by omega) hlt))
        have hno : Maps.has D (.int .i64 (-1)) = false := by
          cases hb : Maps.has D (.int .i64 (-1))
          · rfl
          · obtain ⟨i, _, he⟩ := hP.1 _ hb
            injection he with _ he
            omega
        clear hneg hfn hfb hxf hP
        go_wp2_with (first | (go_at_call 16; refine (CF.out _).mono ?_; rintro e w' ⟨rfl, rfl⟩) | (at_lookup; refine wpList_lookup_own_ok_int _ rfl _ _ 76 rfl 3 3 .i64 keyIntF Try.underlying76 Try.underlying3 (Try.zeroValue3 _) (w.heap.size + 1) 225 D rfl hown _ _ rfl hkey ?_; intro cc hat hwc; rw [hno]))
        go_ret
        obtain ⟨vs, hv⟩ := ownLI_nil WA w.heap.size
        exact ⟨_, _, _, vs, rfl, by rw [HN.out]; exact hv, BwC.trans (BwX.mono (by omega))⟩
      · obtain ⟨X, rfl⟩ := Int.eq_ofNat_of_zero_le (show 0 ≤ x by omega)
        have hX : X < 225 := by omega
        have HF2 : Hid (flowsTo hs (k + 1) = true) := flowsTo_succ HF.out (by omega)
        obtain ⟨hyes, hat1⟩ := hP.2 X (List.mem_range.2 hX)
        have hat2 := hat1 (.lit (.int .i64 0))
        have hg : hopMem us hs k = memP us X := by unfold hopMem; rw [hxf, memI_nat HU.out (by omega)]
        have hmb := memP_lt us X
        rw [HL.out] at hmb
        obtain ⟨q, hq⟩ : ∃ q, memP us X = q := ⟨_, rfl⟩
        rw [hq] at hg hat2 hmb
        clear hneg hfn hfb hxf hP hat1 hq
        by_cases hq1 : q = -1
        · have qB : (q != -1) = false := by simp [hq1]
          have HN := Lib.hid (spreadTo_none (g := hopMem us hs) (M := n) (n := k) (by omega))
          clear hg hq1 hmb
          go_wp2_with (first | (go_at_call 16; refine (CF.out _).mono ?_; rintro e w' ⟨rfl, rfl⟩) | (at_lookup; refine wpList_lookup_own_ok_int _ rfl _ _ 76 rfl 3 3 .i64 keyIntF Try.underlying76 Try.underlying3 (Try.zeroValue3 _) (w.heap.size + 1) 225 D rfl hown _ _ rfl hkey ?_; intro cc hat hwc; rw [hyes]; obtain rfl : q = cc := by (rw [hat2] at hat; injection hat with hat; injection hat)))
          go_roundw
          case rel => exact ⟨k + 1, by omega, by go_num, HF2, by rw [HN.out]; exact OX, BwX⟩
          case measure => simp [intOf]; omega
        · have qB : (q != -1) = true := by simp [hq1]
          obtain ⟨m, rfl⟩ := Int.eq_ofNat_of_zero_le (show 0 ≤ q by omega)
          have hm : m < n := by omega
          have hm0 : (0 : Int) ≤ (m : Int) := by omega
          have hm1 : (m : Int) < (n : Int) := by omega
          have HS := Lib.hid (spreadTo_some (M := n) hg)
          obtain ⟨vs, X2, q2, d2, OV, hvk, hcell, hOw⟩ := OX.at_ hm (spreadTo_get (hopMem us hs) k hm)
          have hq2 : q2 ≤ k := by have e1 := hOw.has.len; have e2 := hasTo_le (hopMem us hs) (m : Int) k; omega
          have HVK := Lib.hid hvk
          clear hg hq1 hmb hvk
          go_wp2_with (first | (go_at_call 16; refine (CF.out _).mono ?_; rintro e w' ⟨rfl, rfl⟩) | (at_lookup; refine wpList_lookup_own_ok_int _ rfl _ _ 76 rfl 3 3 .i64 keyIntF Try.underlying76 Try.underlying3 (Try.zeroValue3 _) (w.heap.size + 1) 225 D rfl hown _ _ rfl hkey ?_; intro cc hat hwc; rw [hyes]; obtain rfl : (m : Int) = cc := by (rw [hat2] at hat; injection hat with hat; injection hat)) | (at_builtin; refine wpList_apps _ rfl (.tmp 57) (.tmp 59) 33 rfl wC.heap.size 3 i0 (.int .i64 0) 8 Try.underlying33 hi hz0 hz1 hz2 rfl X2 q2 d2 _ rfl hOw 1 1 #[.int .i64 (k : Int)] rfl rfl (by simp [Value.oneCell']) (by decide) (by omega) (by decide) (by omega) ?_; intro g4 cap4 w4 O4 G4 B4 hat4; obtain ⟨⟨u4, hu4, hf4⟩, L4⟩ := OV.swap HVK.out hm (show Own w4 wC.heap.size 3 (some ⟨g4, 0, none⟩) (q2 + 1) cap4 (ints .i64 (hasTo (hopMem us hs) (m : Int) k ++ [(k : Int)])) from (by rw [ints_app]; exact O4)) G4 hat4))
          go_roundw
          case rel => exact ⟨k + 1, by omega, by go_num, HF2, by rw [HS.out]; exact L4, (BwX.trans B4).setCell (Nat.le_refl _) _⟩
          case measure => simp [intOf]; omega
    · have hltB : decide ((k : Int) < (n' : Int)) = false := by simp; omega
      obtain rfl : k = n' := by omega
      rw [HP.out HF.out] at OL
      obtain ⟨vs, OV⟩ := OL
      go_wp2
      go_ret
      exact ⟨_, _, _, vs, rfl, OV.mono (by omega), BwC.trans (Bw.mono (by omega))⟩
end Go.Proofs.Ytimddobedgopiaa
