/-
  Chapter 9's model, stations that send when they like: what is proved here is what RunTalk returns, in memory of its own, and that it writes nothing that was there. Condition: lengths up to 2^24.
-/
import Derived.Test.YtpciaokafokfmaaTalkS
import Derived.Deep.Cut
import Derived.Deep.CutRange
namespace Go.Proofs.Ytpciaokafokfmaa
open Go.RowKit

theorem zeros_ints9' (k : Nat) : (madeCells (Value.cells (.int .i64 0)) (k * 1)).toList = ints .i64 (List.replicate k 0) := by
  rw [Nat.mul_one, show Value.cells (.int .i64 0) = #[.int .i64 0] from rfl]
  simp only [ints, List.map_replicate]
  exact toList_madeCells_one _ _
theorem fO_init (qs ds : List Int) : fO (initT qs ds).ts = qs := by simp [fO, initT, Function.comp_def]
theorem map_zero9 : ∀ qs : List Int, qs.map (fun _ => (0 : Int)) = List.replicate qs.length 0
  | [] => rfl
  | _ :: r => by rw [List.map_cons, map_zero9 r]; rfl
theorem wO_init (qs ds : List Int) : wO (initT qs ds).ts = List.replicate qs.length 0 := by simp [wO, initT, Function.comp_def, map_zero9]
theorem tO_init (qs ds : List Int) : tO (initT qs ds).ts = List.replicate qs.length 0 := by simp [tO, initT, Function.comp_def, map_zero9]
/-- A block with these cells is a slice of the call's own. -/
theorem own_of_row {W : World} {lo b n : Nat} {e : TypeId} {cs : Array Value} {xs : List Value} (h : W.heap[b]? = some (.cells cs e (0, 0))) (hx : cs.toList = xs) (hn : xs.length = n) (hm : n ≤ maxLen) (hl : lo ≤ b) : Own W lo e (some ⟨b, 0, none⟩) n n xs := by
  have hs : cs.size = n := by rw [← hn, ← hx]; simp
  refine ⟨by omega, .inr ⟨b, n, cs, rfl, hl, h, Nat.le_refl _, hm, by omega, ?_⟩⟩
  rw [hx]; exact List.take_of_length_le (by omega)
/-- The stations of a run that begins, in memory. -/
def Begun (w1 : World) (lo n : Nat) (D : Option Addr) (cd : Nat) (qs ds : List Int) (v : Value) (wx : World) : Prop :=
  ∃ r gq gw gt cq bO, v = .pointer (some ⟨r, 0, none⟩) ∧ MW wx lo r gq gw gt n cq (some ⟨bO, 0, none⟩) 0 D cd qs (List.replicate n 0) (List.replicate n 0) ds [] 0 0 ∧ Below w1.heap.size w1 wx

/-- How many slots there were. -/
def slotsAtT (w : World) (r : Nat) : Nat := match w.cell? ⟨r, 2, none⟩ with
  | some (.int _ z) => z.toNat
  | _ => 0
theorem slotsAtT_row {w : World} {r : Nat} {o q a t m : Value} {h : Int} {s : Nat} {d : Bool} (k : TRow w r o h s d q a t m) : slotsAtT w r = s := by unfold slotsAtT; rw [k.cells.2.2.1]; simp
theorem slotF_dl9 (hit : Bool) : ∀ (ts : List Tk) (i : Nat) (ds : List Int), (slotF hit i ts ds).2.1.length ≤ ds.length
  | [], _, _ => Nat.le_refl _
  | x :: r, i, ds => by
    unfold slotF
    split
    · split
      · exact Nat.le_trans (slotF_dl9 hit r (i + 1) ds.tail) (by simp)
      · exact slotF_dl9 hit r (i + 1) ds
    · exact slotF_dl9 hit r (i + 1) ds
theorem bel_al9 {a b : World} (h : Below a.heap.size a b) (o : Obj) : Below a.heap.size a (b.alloc o) := h.alloc h.size o
theorem bel_dr9 {a b : World} (h : Below a.heap.size a b) : Below a.heap.size a b.drew := h.drew
theorem heap_al9 (w : World) (o : Obj) (i : Nat) : (w.alloc o).heap[i]? = if i = w.heap.size then some o else w.heap[i]? := by
  show (w.heap.push o)[i]? = _
  rw [Array.getElem?_push]
theorem heap_dr9 (w : World) (i : Nat) : w.drew.heap[i]? = w.heap[i]? := rfl
theorem size_al9 (w : World) (o : Obj) : (w.alloc o).heap.size = w.heap.size + 1 := by simp
theorem size_dr9 (w : World) : w.drew.heap.size = w.heap.size := rfl
theorem begun_leaf {w1 Y : World} {lo n m cd r gq gw gt bO cq : Nat} {D : Option Addr} {qs ds : List Int} {MC : Array Value} (hn : n ≤ 6) (hMl : MC.toList = ints .i64 (List.replicate n 0)) (hdm : ds.length = m) (hm : Has w1 D ds.length (ints .i64 ds)) (hD : ∀ x, D = some x → x.block < lo) (hc : ds.length ≤ cd)
    (hr : r = Y.heap.size) (hq : Own Y lo 3 (some ⟨gq, 0, none⟩) n cq (ints .i64 qs)) (hB : Below w1.heap.size w1 Y)
    (hw : Y.heap[gw]? = some (.cells MC 3 (0, 0))) (ht : Y.heap[gt]? = some (.cells MC 3 (0, 0))) (hO : Y.heap[bO]? = some (.cells #[] 3 (0, 0)))
    (hl : lo ≤ gw ∧ lo ≤ gt ∧ lo ≤ bO ∧ lo ≤ r) (hne : gq ≠ gw ∧ gq ≠ gt ∧ gw ≠ gt) (hno : bO ≠ gq ∧ bO ≠ gw ∧ bO ≠ gt) :
    Begun w1 lo n D cd qs ds (.pointer (some ⟨r, 0, none⟩)) (Y.alloc (.cells #[.slice (some ⟨bO, 0, none⟩) 0 0, .int .i64 0, .int .i64 0, .bool false, .slice (some ⟨gq, 0, none⟩) n cq, .slice (some ⟨gw, 0, none⟩) n n, .slice (some ⟨gt, 0, none⟩) n n, .slice D m cd] 66)) := by
  have hz : (ints .i64 (List.replicate n 0)).length = n := by simp [ints]
  subst hdm hr
  have BY : Below Y.heap.size Y (Y.alloc (.cells #[.slice (some ⟨bO, 0, none⟩) 0 0, .int .i64 0, .int .i64 0, .bool false, .slice (some ⟨gq, 0, none⟩) n cq, .slice (some ⟨gw, 0, none⟩) n n, .slice (some ⟨gt, 0, none⟩) n n, .slice D ds.length cd] 66)) := (Below.refl _ _).alloc (Nat.le_refl _) _
  have hX := heap_alloc_new Y (.cells #[.slice (some ⟨bO, 0, none⟩) 0 0, .int .i64 0, .int .i64 0, .bool false, .slice (some ⟨gq, 0, none⟩) n cq, .slice (some ⟨gw, 0, none⟩) n n, .slice (some ⟨gt, 0, none⟩) n n, .slice D ds.length cd] 66)
  exact ⟨Y.heap.size, gq, gw, gt, cq, bO, rfl, ⟨hX, hq.bel BY, (own_of_row (n := n) hw hMl hz (by unfold maxLen; omega) hl.1).bel BY, (own_of_row (n := n) ht hMl hz (by unfold maxLen; omega) hl.2.1).bel BY, (own_of_row (n := 0) hO rfl rfl (by unfold maxLen; omega) hl.2.2.1).bel BY, hm.bel (bel_trans hB BY), hD, hc, hl.2.2.2, hne, fun x hx => by injection hx with hx; subst hx; exact hno⟩, bel_trans hB BY⟩

set_option linter.unusedSimpArgs false in
set_option maxRecDepth 100000 in
set_option maxHeartbeats 16000000 in
theorem specRunTalk_w {A D : Option Addr} {n c nd cd : Nat} {qs ds : List Int} {sl : Int} {w : World} (h : Has w A n (ints .i64 qs)) (hn : n ≤ 16777216) (hD : Has w D nd (ints .i64 ds)) (hnd : nd ≤ 16777216) (hcd : nd ≤ cd) (hDl : ∀ x, D = some x → x.block < w.heap.size) :
    Calls Try.prog 18 #[.slice A n c, .slice D nd cd, .int .i64 sl] w fun e w' => RunR w w' e (talkO qs ds sl) (talkH qs ds sl) (talkN qs ds sl) (talkD qs ds sl) (talkRunOk qs ds sl) := by
  obtain ⟨i0, hi, hz0, hz1, hz2⟩ := info_parts Try.infoInt
  have HL := Lib.hid h.len
  have HLD := Lib.hid hD.len
  obtain ⟨W0, hW0⟩ : ∃ W0, w.alloc (.cells #[.slice none 0 0, .int .i64 0, .int .i64 0, .bool false] 27) = W0 := ⟨_, rfl⟩
  have K0 : RunRow W0 w.heap.size none 0 0 0 0 false := by rw [← hW0]; exact heap_alloc_new w _
  have B0 : Below w.heap.size w W0 := by rw [← hW0]; exact (Below.refl _ _).alloc (Nat.le_refl _) _
  have S0 := Lib.hid (show W0.heap.size = w.heap.size + 1 by rw [← hW0]; simp)
  have sle : w.heap.size ≤ W0.heap.size := B0.size
  have h0 := h.bel B0
  have hD0 := hD.bel B0
  obtain ⟨k0, k1, k2, k3⟩ := K0.cells
  have f0 := K0.open_ 0
  have f1 := K0.open_ 1
  have f2 := K0.open_ 2
  have f3 := K0.open_ 3
  have bad : talkRunOk qs ds sl = false → ∀ W, Below w.heap.size w W → RunR w W (.returned (.tuple #[.agg #[.slice none 0 0, .int .i64 0, .int .i64 0, .bool false], .bool false])) (talkO qs ds sl) (talkH qs ds sl) (talkN qs ds sl) (talkD qs ds sl) (talkRunOk qs ds sl) := fun hb W hB => by
    unfold talkO talkH talkN talkD
    rw [hb]
    exact ⟨none, 0, 0, rfl, World.ownsRow_nil _ _ _ _, hB⟩
  have BAD := Lib.hid bad
  clear bad
  go_enter Try.func18, Try.ntmps18
  go_wp2
  go_loop [8] (fun i => ∃ k : Nat, k ≤ nd ∧ i = .int .i64 k ∧ Hid (∀ f ∈ ds.take k, 0 ≤ f ∧ f ≤ 1000)) (fun i => nd - (intOf i).toNat)
  case atStart =>
    have : Hid (∀ f ∈ ds.take 0, 0 ≤ f ∧ f ≤ 1000) := fun f hf => by simp at hf
    exact ⟨0, Nat.zero_le _, rfl, this⟩
  case round =>
    obtain ⟨k, hk, rfl, HF⟩ := hrel
    by_cases hlt : k < nd
    · have hltB : decide ((k : Int) < (nd : Int)) = true := by simp; omega
      have hltN : decide (k < nd) = true := by simp; omega
      obtain ⟨b, o, z, rfl, hbl, hx, hc⟩ := hD0.at_ hlt
      by_cases hz : 0 ≤ z ∧ z ≤ 1000
      · have HF2 := Lib.hid (okDs_take HF.out hx hz)
        have C := Lib.hid (l1In_yes z 0 1000 W0 (by omega) (by omega))
        clear hx hz
        go_wp2_with (go_at_call 50; refine C.out.mono ?_; rintro e w' ⟨rfl, rfl⟩)
        go_round
        case rel => exact ⟨k + 1, by omega, by go_num, HF2⟩
        case measure => simp [intOf]; omega
      · have HE := Lib.hid (BAD.out (by unfold talkRunOk; rw [okDs_no (List.mem_of_getElem? hx) hz]; simp))
        have C := Lib.hid (l1In_no z 0 1000 W0 (by omega))
        clear hx hz
        go_wp2_with (go_at_call 50; refine C.out.mono ?_; rintro e w' ⟨rfl, rfl⟩)
        refine bodyPost_ret (results_row_tmp rfl _ _ _ _ _ _ _ rfl (K0.put none 0 0 0 0 false) Try.underlying27 rfl (by kernel_rfl)) rfl ?_
        exact HE.out _ ((((B0.setCell (Nat.le_refl _) _).setCell (Nat.le_refl _) _).setCell (Nat.le_refl _) _).setCell (Nat.le_refl _) _)
    have hltB : decide ((k : Int) < (nd : Int)) = false := by simp; omega
    have hltN : decide (k < nd) = false := by simp; omega
    obtain rfl : k = nd := by omega
    have HDS : Hid (okDs ds = true) := by
      have h1 := HF.out
      rw [List.take_of_length_le (by rw [HLD.out]; omega)] at h1
      exact okDs_iff.2 h1
    clear hk hlt HF
    by_cases hb : talkOk qs = true
    rotate_left
    · have hbf : talkOk qs = false := by simpa using hb
      have C := Lib.hid (specTalkValid_b (c := c) (b := false) h0 hn hbf)
      have HF := Lib.hid (BAD.out (by unfold talkRunOk; rw [hbf]; rfl))
      clear hb hbf
      go_wp2_with (fail)
      refine C.out.mono ?_
      rintro e w' ⟨rfl, rfl⟩
      go_wp2
      refine bodyPost_ret (results_row_tmp rfl _ _ _ _ _ _ _ rfl (K0.put none 0 0 0 0 false) Try.underlying27 rfl (by kernel_rfl)) rfl ?_
      exact HF.out _ ((((B0.setCell (Nat.le_refl _) _).setCell (Nat.le_refl _) _).setCell (Nat.le_refl _) _).setCell (Nat.le_refl _) _)
    have C := Lib.hid (specTalkValid_b (c := c) h0 hn hb)
    by_cases hk200 : k ≤ 200
    rotate_left
    · have d1 : decide ((k : Int) > 200) = true := by simp; omega
      have d2 : decide (200 < (k : Int)) = true := by simp; omega
      have d3 : decide (200 < k) = true := by simp; omega
      have HF := Lib.hid (BAD.out (by
        cases ht : talkRunOk qs ds sl with
        | false => rfl
        | true => exact absurd (talkRunOk_iff.1 ht).2.1.2 (by rw [HLD.out]; omega)))
      clear hb hk200
      go_wp2_with (fail)
      refine C.out.mono ?_
      rintro e w' ⟨rfl, rfl⟩
      go_wp2
      refine bodyPost_ret (results_row_tmp rfl _ _ _ _ _ _ _ rfl (K0.put none 0 0 0 0 false) Try.underlying27 rfl (by kernel_rfl)) rfl ?_
      exact HF.out _ ((((B0.setCell (Nat.le_refl _) _).setCell (Nat.le_refl _) _).setCell (Nat.le_refl _) _).setCell (Nat.le_refl _) _)
    have d1 : decide ((k : Int) > 200) = false := by simp; omega
    have d2 : decide (200 < (k : Int)) = false := by simp; omega
    have d3 : decide (200 < k) = false := by simp; omega
    by_cases hs : 0 ≤ sl ∧ sl ≤ 2000
    rotate_left
    · have C3 := Lib.hid (l1In_no sl 0 2000 W0 hs)
      have HF := Lib.hid (BAD.out (by
        cases ht : talkRunOk qs ds sl with
        | false => rfl
        | true => exact absurd (talkRunOk_iff.1 ht).2.2 hs))
      clear hb hs
      go_wp2_with (fail)
      refine C.out.mono ?_
      rintro e w' ⟨rfl, rfl⟩
      go_wp2_with (fail)
      refine C3.out.mono ?_
      rintro e w' ⟨rfl, rfl⟩
      go_wp2
      refine bodyPost_ret (results_row_tmp rfl _ _ _ _ _ _ _ rfl (K0.put none 0 0 0 0 false) Try.underlying27 rfl (by kernel_rfl)) rfl ?_
      exact HF.out _ ((((B0.setCell (Nat.le_refl _) _).setCell (Nat.le_refl _) _).setCell (Nat.le_refl _) _).setCell (Nat.le_refl _) _)
    have C3 := Lib.hid (l1In_yes sl 0 2000 W0 hs.1 hs.2)
    have hV : talkRunOk qs ds sl = true := talkRunOk_iff.2 ⟨hb, ⟨HDS.out, by rw [HLD.out]; exact hk200⟩, hs⟩
    have HV := Lib.hid hV
    have HQ := Lib.hid (talkOk_iff.1 hb).1
    have hn6 : n ≤ 6 := by have := (talkOk_iff.1 hb).2; have := HL.out; omega
    obtain ⟨L, rfl⟩ := Int.eq_ofNat_of_zero_le hs.1
    have hL2 : L ≤ 2000 := by omega
    clear hb hs hV BAD
    go_wp2_with (fail)
    refine C.out.mono ?_
    rintro e w' ⟨rfl, rfl⟩
    go_wp2_with (fail)
    refine C3.out.mono ?_
    rintro e w' ⟨rfl, rfl⟩
    obtain ⟨MC, hMC⟩ : ∃ MC, madeCells (Value.cells (.int .i64 0)) (n * 1) = MC := ⟨_, rfl⟩
    have hMl : MC.toList = ints .i64 (List.replicate n 0) := by rw [← hMC]; exact zeros_ints9' n
    have hmk : ∀ W : World, (Instr.makeSlice 23 (.int .i64 (n : Int)) (.int .i64 (n : Int))).run Try.prog W = .ok (.slice (some ⟨W.heap.size, 0, none⟩) n n) (W.alloc (.cells MC 3)) := fun W => by
      have := run_make (P := Try.prog) W 23 3 i0 (.int .i64 0) Try.underlying23 hi hz0 .i64 .i64 (n : Int) (n : Int) (by omega) (Int.le_refl _) (by rw [hz2]; omega) (by omega)
      rw [hz1] at this
      simp only [Int.toNat_natCast] at this
      rw [this, hMC]
    clear hMC
    go_upto_region 9 with fail
    go_cut [10] from 40 to 51 (fun v wx => Begun W0 W0.heap.size n D cd qs ds v wx)
    case first =>
      have hdl : ds.length = k := HLD.out
      have hDr : Has W0 D ds.length (ints .i64 ds) := by rw [hdl]; exact hD0
      have hcl : ds.length ≤ cd := by omega
      have HDr := Lib.hid hDr
      have HDL := Lib.hid hDl
      have HCL := Lib.hid hcl
      have HMl := Lib.hid hMl
      have HH0 := Lib.hid h0
      have HKK := Lib.hid hdl
      clear k0 k1 k2 k3 f0 f1 f2 f3 d1 d2 d3 hltB hltN hDr hcl hMl hdl hDl hD0 hD h h0 hW0
      go_region_law ((refine step9_app rfl (.tmp 40) (.tmp 41) 23 rfl 3 i0 (.int .i64 0) 8 Try.underlying23 hi hz0 hz1 hz2 rfl W0.heap.size _ rfl ?eb ?el ?es A n c (ints .i64 qs) rfl ?er (ints_oneCell _ _) ?e1 ?e2 ?_); (case eb => simp only [heap_al9, heap_dr9, size_al9]; (repeat (first | rw [if_pos (by omega)] | rw [if_neg (by omega)]))); (case el => omega); (case es => simp only [size_al9, size_dr9]; omega); (case er => exact HH0.out.bel (by repeat (first | exact Below.refl _ _ | refine bel_al9 ?_ _ | refine bel_dr9 ?_))); (case e1 => unfold maxLen; omega); (case e2 => omega); intro gq cq w5 O5 G5 E5; have q1 := G5.size; simp only [size_al9, size_dr9] at q1 E5)
      all_goals go_wp2_with fail
      all_goals go_meet
      all_goals
        have B5 : Below W0.heap.size W0 w5 := bel_trans (by repeat (first | exact Below.refl _ _ | refine bel_al9 ?_ _ | refine bel_dr9 ?_)) (below_of_grown G5 (Nat.le_refl _) (fun _ hk => by cases hk))
        refine begun_leaf (MC := MC) hn6 HMl.out HKK.out HDr.out (fun x hx => Nat.lt_of_lt_of_le (HDL.out x hx) sle) HCL.out ?hr (O5.bel ?hq) (bel_trans B5 ?hB) ?hw ?ht ?hO ⟨?_, ?_, ?_, ?_⟩ ⟨?_, ?_, ?_⟩ ⟨?_, ?_, ?_⟩
        case hr => (first | rfl | simp only [size_al9, size_dr9])
        case hq => exact (by repeat (first | exact Below.refl _ _ | refine bel_al9 ?_ _ | refine bel_dr9 ?_))
        case hB => exact (by repeat (first | exact Below.refl _ _ | refine bel_al9 ?_ _ | refine bel_dr9 ?_))
        case hw => ((try simp only [heap_al9, heap_dr9, size_al9, size_dr9]); (repeat' (split <;> try (first | omega | (refine absurd trivial ?_; assumption)))); all_goals (first | rfl | (rw [G5.block _ (by simp only [size_al9, size_dr9]; omega) (fun hh => by cases hh)]; (try simp only [heap_al9, heap_dr9, size_al9, size_dr9]); (repeat' (split <;> try (first | omega | (refine absurd trivial ?_; assumption)))); all_goals rfl)))
        case ht => ((try simp only [heap_al9, heap_dr9, size_al9, size_dr9]); (repeat' (split <;> try (first | omega | (refine absurd trivial ?_; assumption)))); all_goals (first | rfl | (rw [G5.block _ (by simp only [size_al9, size_dr9]; omega) (fun hh => by cases hh)]; (try simp only [heap_al9, heap_dr9, size_al9, size_dr9]); (repeat' (split <;> try (first | omega | (refine absurd trivial ?_; assumption)))); all_goals rfl)))
        case hO => ((try simp only [heap_al9, heap_dr9, size_al9, size_dr9]); (repeat' (split <;> try (first | omega | (refine absurd trivial ?_; assumption)))); all_goals (first | rfl | (rw [G5.block _ (by simp only [size_al9, size_dr9]; omega) (fun hh => by cases hh)]; (try simp only [heap_al9, heap_dr9, size_al9, size_dr9]); (repeat' (split <;> try (first | omega | (refine absurd trivial ?_; assumption)))); all_goals rfl)))
        all_goals omega
    case rest =>
      have hst0 : Hid (runT (L - (initT qs ds).s) (initT qs ds) = runT L (initT qs ds)) := rfl
      have hok0 := initT_ok HQ.out HDS.out
      rw [HL.out] at hok0
      have HOK0 := Lib.hid hok0
      unfold Begun at hcut
      obtain ⟨r, gq', gw, gt, cq, bO, rfl, MB, BB⟩ := hcut
      obtain ⟨w1, rfl⟩ : ∃ x, x = wc := ⟨_, rfl⟩
      have MB2 : MW w1 W0.heap.size r gq' gw gt n cq (some ⟨bO, 0, none⟩) 0 D cd (fO (initT qs ds).ts) (wO (initT qs ds).ts) (tO (initT qs ds).ts) (initT qs ds).ds (initT qs ds).o (initT qs ds).h (initT qs ds).s := by
        rw [fO_init, wO_init, tO_init, HL.out]; exact MB
      have KB1 : RunRow w1 w.heap.size none 0 0 0 0 false := K0.bel BB
      have E1 : Below w.heap.size w w1 := B0.trans (BB.mono sle)
      have hs0 : w.heap.size < W0.heap.size := K0.lt
      -- the end
      have fin : ∀ st : TS, runT L (initT qs ds) = st → ∀ (W : World) (O : Option Addr) (co : Nat), RunRow W w.heap.size none 0 0 0 0 false → Own W w.heap.size 3 O st.o.length co (ints .i64 st.o) → Below w.heap.size w W →
          RunR w ((((W.setCell ⟨w.heap.size, 0, none⟩ (.slice O st.o.length co)).setCell ⟨w.heap.size, 1, none⟩ (.int .i64 st.h)).setCell ⟨w.heap.size, 2, none⟩ (.int .i64 st.s)).setCell ⟨w.heap.size, 3, none⟩ (.bool (!goesL st.ts))) (.returned (.tuple #[.agg #[.slice O st.o.length co, .int .i64 st.h, .int .i64 st.s, .bool (!goesL st.ts)], .bool true])) (talkO qs ds L) (talkH qs ds L) (talkN qs ds L) (talkD qs ds L) (talkRunOk qs ds L) := fun st hst W O co hK hO hB => by
        have e0 : talkS qs ds L = st := by unfold talkS; rw [Int.toNat_natCast]; exact hst
        unfold talkO talkH talkN talkD
        rw [HV.out, e0]
        refine ⟨O, _, co, rfl, ?_, (((hB.setCell (Nat.le_refl _) _).setCell (Nat.le_refl _) _).setCell (Nat.le_refl _) _).setCell (Nat.le_refl _) _⟩
        simp only [if_true]
        exact own_set (own_set (own_set (own_set hO hK (by decide) 0 _) (hK.order _ _ _) (by decide) 1 _) ((hK.order _ _ _).hits _) (by decide) 2 _) (((hK.order _ _ _).hits _).slots _) (by decide) 3 _
      have FIN := Lib.hid fin
      have hkd : (initT qs ds).ds.length ≤ 200 := by show ds.length ≤ 200; rw [HLD.out]; exact hk200
      clear fin hok0 MB BB k0 k1 k2 k3 f0 f1 f2 f3 d1 d2 d3 hltB hltN hMl hmk hW0 h0 hD0
      go_wp2
      go_loopw [52] (fun _ wr => ∃ (st : TS) (O : Option Addr) (co : Nat) (D' : Option Addr) (cd' : Nat), Hid (runT (L - st.s) st = runT L (initT qs ds)) ∧ st.s ≤ L ∧ Hid (OkT n st) ∧ st.ds.length ≤ 200 ∧ MW wr W0.heap.size r gq' gw gt n cq O co D' cd' (fO st.ts) (wO st.ts) (tO st.ts) st.ds st.o st.h st.s ∧ RunRow wr w.heap.size none 0 0 0 0 false ∧ Below w.heap.size w wr) (fun _ wr => L - slotsAtT wr r)
      case atStart => exact ⟨initT qs ds, _, _, _, _, hst0, Nat.zero_le _, HOK0, hkd, MB2, KB1, E1⟩
      case round =>
        obtain ⟨st, O, co, D', cd', HR, hsL, HK, hdl, MI, KB, BW⟩ := hrel
        have hfb : ∀ x ∈ fO st.ts, 0 ≤ x ∧ x ≤ 9 := fun x hx => by
          simp [fO] at hx
          obtain ⟨a, b, hx⟩ := hx
          exact HK.out.f _ hx
        have CS := Lib.hid (l9Sum_any (c := cq) MI.q.has hn6 hfb)
        have hpos := fO_pos st.ts (fun x hx => (HK.out.f x hx).1)
        obtain ⟨S, hS⟩ : ∃ S, (fO st.ts).sum = S := ⟨_, rfl⟩
        rw [hS] at CS hpos
        have HSL := Lib.hid (slotsAtT_row MI.row)
        have sW := BW.size
        have m2 := MI.row.cells.2.2.1
        have m4 := MI.row.cells.2.2.2.2.1
        have m3 := MI.row.cells.2.2.2.1
        have mf3 := MI.row.open_ 3
        clear hfb hS
        cases hg : goesL st.ts with
        | false =>
          have hS0 : S = 0 := by
            have h1 : ¬ 0 < S := fun hh => by have := hpos.1.1 hh; rw [hg] at this; cases this
            omega
          subst hS0
          have HST := Lib.hid (show runT L (initT qs ds) = st by rw [← HR.out, runT_stop hg])
          clear hpos
          have KD := MI.row.done true
          have d0 := KD.cells.1
          have d1 := KD.cells.2.1
          have d2 := KD.cells.2.2.1
          have d3 := KD.cells.2.2.2.1
          have hwr : w.heap.size < r := Nat.lt_of_lt_of_le hs0 MI.ge
          have KBD := KB.grown (one_grown9 wr r 3 (.bool true)) (by simp; omega)
          have OD := own_set (MI.o.mono sle) MI.row (by decide) 3 (.bool true)
          have BD := BW.setCell (p := ⟨r, 3, none⟩) (Nat.le_of_lt hwr) (.bool true)
          obtain ⟨b0, b1, b2, b3⟩ := KBD.cells
          have e0 := KBD.open_ 0
          have e1 := KBD.open_ 1
          have e2 := KBD.open_ 2
          have e3 := KBD.open_ 3
          have FF := FIN.out st HST.out _ O co KBD OD BD
          rw [hg] at FF
          have HFF := Lib.hid FF
          clear FF
          by_cases hlt : st.s < L
          · have l1 : decide ((st.s : Int) < (L : Int)) = true := by simp; omega
            have l2 : decide (st.s < L) = true := by simp; omega
            clear hlt
            go_wp2_with (fail)
            refine CS.out.mono ?_
            rintro e w5 ⟨rfl, rfl⟩
            go_wp2_with (fail)
            refine CS.out.mono ?_
            rintro e w5 ⟨rfl, rfl⟩
            go_wp2
            refine bodyPost_ret (results_row_tmp rfl _ _ _ _ _ _ _ rfl (KBD.put O st.o.length co st.h st.s true) Try.underlying27 rfl (by kernel_rfl)) rfl ?_
            exact HFF.out
          · have l1 : decide ((st.s : Int) < (L : Int)) = false := by simp; omega
            have l2 : decide (st.s < L) = false := by simp; omega
            clear hlt
            go_wp2_with (fail)
            refine CS.out.mono ?_
            rintro e w5 ⟨rfl, rfl⟩
            go_wp2
            refine bodyPost_ret (results_row_tmp rfl _ _ _ _ _ _ _ rfl (KBD.put O st.o.length co st.h st.s true) Try.underlying27 rfl (by kernel_rfl)) rfl ?_
            exact HFF.out
        | true =>
          have hS1 : 0 < S := hpos.1.2 hg
          have g2 : decide (S > 0) = true := by simp; omega
          have g3 : decide (0 < S) = true := by simp; omega
          have g4 : (S == 0) = false := by simp; omega
          clear hpos hS1
          by_cases hlt : st.s < L
          rotate_left
          · have l1 : decide ((st.s : Int) < (L : Int)) = false := by simp; omega
            have l2 : decide (st.s < L) = false := by simp; omega
            have HST := Lib.hid (show runT L (initT qs ds) = st by rw [← HR.out, show L - st.s = 0 by omega]; rfl)
            clear hlt
            have KD := MI.row.done false
            have d0 := KD.cells.1
            have d1 := KD.cells.2.1
            have d2 := KD.cells.2.2.1
            have d3 := KD.cells.2.2.2.1
            have hwr : w.heap.size < r := Nat.lt_of_lt_of_le hs0 MI.ge
            have KBD := KB.grown (one_grown9 wr r 3 (.bool false)) (by simp; omega)
            have OD := own_set (MI.o.mono sle) MI.row (by decide) 3 (.bool false)
            have BD := BW.setCell (p := ⟨r, 3, none⟩) (Nat.le_of_lt hwr) (.bool false)
            obtain ⟨b0, b1, b2, b3⟩ := KBD.cells
            have e0 := KBD.open_ 0
            have e1 := KBD.open_ 1
            have e2 := KBD.open_ 2
            have e3 := KBD.open_ 3
            have FF := FIN.out st HST.out _ O co KBD OD BD
            rw [hg] at FF
            have HFF := Lib.hid FF
            clear FF
            go_wp2_with (fail)
            refine CS.out.mono ?_
            rintro e w5 ⟨rfl, rfl⟩
            go_wp2
            refine bodyPost_ret (results_row_tmp rfl _ _ _ _ _ _ _ rfl (KBD.put O st.o.length co st.h st.s false) Try.underlying27 rfl (by kernel_rfl)) rfl ?_
            exact HFF.out
          have l1 : decide ((st.s : Int) < (L : Int)) = true := by simp; omega
          have l2 : decide (st.s < L) = true := by simp; omega
          have HR2 := Lib.hid (show runT (L - (st.s + 1)) (slotS st) = runT L (initT qs ds) by
            have h1 := HR.out
            obtain ⟨m, hm⟩ : ∃ m, L - st.s = m + 1 := ⟨L - st.s - 1, by omega⟩
            rw [hm, runT, if_pos hg] at h1
            rw [show L - (st.s + 1) = m by omega]; exact h1)
          have HK2 := Lib.hid (slotS_ok hn6 HK.out)
          have hdl2 : (slotS st).ds.length ≤ 200 := Nat.le_trans (slotF_dl9 _ _ _ _) hdl
          have sW0 : W0.heap.size ≤ wr.heap.size := Nat.le_trans MI.ge (Nat.le_of_lt MI.row.lt)
          have CL := Lib.hid (talkSlot_any HK.out hn6 (by omega) hdl sW0 MI)
          go_wp2_with (fail)
          refine CS.out.mono ?_
          rintro e w5 ⟨rfl, rfl⟩
          go_wp2_with (fail)
          refine CL.out.mono ?_
          rintro e w6 ⟨rfl, ⟨O6, co6, D6, cd6, M6⟩, B6⟩
          have E6 := BW.trans (B6.mono sle)
          have KB6 : RunRow w6 w.heap.size none 0 0 0 0 false := (B6.block _ hs0).trans KB
          have HM6 := Lib.hid (show L - slotsAtT w6 r < L - slotsAtT wr r by rw [slotsAtT_row M6.row, HSL.out, slotS_s]; omega)
          go_wp2
          go_roundw
          case rel => exact ⟨slotS st, O6, co6, D6, cd6, HR2, by have := of_decide_eq_true l2; rw [slotS_s]; omega, HK2, hdl2, M6, KB6, E6⟩
          case measure => exact HM6.out
end Go.Proofs.Ytpciaokafokfmaa
