/-
  Chapter 10's program, a bridge of ports and the iterator over those of a network: what is proved here is what they return and give, and that they write nothing that was there. Condition: lengths up to 2^24.
-/
import Derived.Test.YtiokieancjigeaaDoorImp10b
import Derived.RangeFuncBox
import Derived.RangeFuncCalls
import Derived.RangeFuncFrom
import Derived.BigRegion
import Derived.BigQuiet
import Derived.RangeFuncLeaves
import Derived.Shelf.Abstract
import Derived.WalkKit
import Derived.OwnWalkIn
import Derived.TacticsInMore
import Derived.LoopNIn
import Derived.LoopIn
import Derived.Maps.AppendAt
import Derived.Sort.BigQuietIn
namespace Go.Proofs.YtiokieancjigeaaDoor
open Go.RowKit Go.Shelf

attribute [local go_sem] Oper.semAt_some

theorem Tryd.infoVP : (Tryd.prog.info? 64).map (fun i => (i.zero, i.size, i.bytes)) = some (some .nilIface, 1, 16) := by kernel_rfl
theorem ifc_form (p : Port) : ∃ (T : TypeId) (a : Value), ifc p = .iface T a := by
  unfold ifc
  split
  · exact ⟨_, _, rfl⟩
  · exact ⟨_, _, rfl⟩
/-- Values of interfaces: the first of a list, and nil behind them. -/
def holdsTo (ps : List Port) (n k : Nat) : List Value := (ps.take k).map ifc ++ List.replicate (n - k) .nilIface
theorem holds_set {ps : List Port} {n k : Nat} {p : Port} (hl : ps.length = n) (hp : ps[k]? = some p) : (holdsTo ps n k).set k (ifc p) = holdsTo ps n (k + 1) := by
  have hk : k < n := by rw [← hl]; exact (List.getElem?_eq_some_iff.1 hp).1
  have h := set_take (ps.map ifc) Value.nilIface k n (by simp [hl]) hk (ifc p) (by simp [hp])
  unfold holdsTo
  rw [List.map_take, List.map_take]
  exact h

set_option maxRecDepth 100000 in
set_option maxHeartbeats 4000000 in
theorem vlanBridgeOf_no {A : Option Addr} {n c : Nat} {ps : List Port} {w : World} (h : HasP w A n ps) (hn : n ≤ 16777216) (hl : LenP ps) (hok : ¬ psOk ps) :
    Calls Tryd.prog 23 #[.slice A n c] w fun e w' => e = .returned (.tuple #[.slice none 0 0, .bool false]) ∧ Below w.heap.size w w' := by
  obtain ⟨i0, hi, hz0, hz1, hz2⟩ := info_parts Tryd.infoVP
  have HL := Lib.hid h.1
  have HN := Lib.hid hok
  clear hok
  by_cases h1 : n < 1
  · have g1 : decide ((n : Int) < 1) = true := by simp; omega
    clear h1
    go_enter Tryd.func23, Tryd.ntmps23
    go_wp2
    go_ret2
    exact ⟨rfl, Below.refl _ _⟩
  have g1 : decide ((n : Int) < 1) = false := by simp; omega
  by_cases h6 : n > 6
  · have g2 : decide ((n : Int) > 6) = true := by simp; omega
    have g3 : decide (6 < (n : Int)) = true := by simp; omega
    clear h6 h1
    go_enter Tryd.func23, Tryd.ntmps23
    go_wp2
    go_ret2
    exact ⟨rfl, Below.refl _ _⟩
  have g2 : decide ((n : Int) > 6) = false := by simp; omega
  have g3 : decide (6 < (n : Int)) = false := by simp; omega
  have hn1 : 1 ≤ n ∧ n ≤ 6 := by omega
  clear h1 h6
  go_enter Tryd.func23, Tryd.ntmps23
  go_wp2_with (refine wpList_make_full _ rfl _ _ 51 rfl w.heap.size 64 i0 .nilIface 1 Tryd.underlying51 hi hz0 hz1 .i64 .i64 _ _ n rfl rfl rfl rfl (by rw [hz2]; omega) (by unfold maxLen; omega) (Nat.le_refl _) ?_; intro w1 hown hgrow)
  have O0 : Own w1 w.heap.size 64 (some ⟨w.heap.size, 0, none⟩) n n (holdsTo ps n 0) := by
    have hcap : (madeCells (Value.cells .nilIface) (n * 1)).toList = holdsTo ps n 0 := by rw [Nat.mul_one, show Value.cells .nilIface = #[.nilIface] from rfl, toList_madeCells_one]; simp [holdsTo]
    unfold Own; rw [← hcap]; exact hown
  have B0 : Below w.heap.size w w1 := below_of_grown hgrow (Nat.le_refl _) (fun k hk => by cases hk)
  clear hown hgrow
  go_loopw [22] (fun i wr => ∃ k : Nat, k ≤ n ∧ i = .int .i64 (k : Int) ∧ Hid (∀ p ∈ ps.take k, pOk p) ∧ Own wr w.heap.size 64 (some ⟨w.heap.size, 0, none⟩) n n (holdsTo ps n k) ∧ Below w.heap.size w wr) (fun i _ => n - (intOf i).toNat)
  case atStart => exact ⟨0, Nat.zero_le _, rfl, Lib.hid (fun v hv => by simp at hv), O0, B0⟩
  case round =>
    obtain ⟨k, hk, rfl, HS, O1, BW⟩ := hrel
    have hge := BW.size
    by_cases hlt : k < n
    · have hltB : decide ((k : Int) < (n : Int)) = true := by simp; omega
      obtain ⟨b', o, B, m, d, x, q, l, rfl, hbl, hx, c0, c1, c2, hmd, hH⟩ := (h.bel BW).at_ hlt
      have hm := hl.at_ hx hH
      have HX := Lib.hid hx
      obtain ⟨V, hV⟩ : ∃ V, wr.alloc (.cells #[.int .i64 x, .int .i64 q, .slice B m d] 32) = V := ⟨_, rfl⟩
      have BWV : Below wr.heap.size wr V := by rw [← hV]; exact below_allocP wr _
      have hVn : V.heap[wr.heap.size]? = some (.cells #[.int .i64 x, .int .i64 q, .slice B m d] 32 (0, 0)) := by rw [← hV]; exact heap_alloc_new wr _
      obtain ⟨d0, d1, d2⟩ := cells3K hVn
      have OV := O1.bel BWV
      have hHV := hH.bel BWV
      have BV := BW.trans (BWV.mono hge)
      clear hx hVn
      by_cases hp : pOk (x, q, l)
      · have C := Lib.hid (vlanPortOf_r (d := d) hHV hm (portR_yes hp))
        have HS2 : Hid (∀ p ∈ ps.take (k + 1), pOk p) := by
          have : ∀ p ∈ ps.take (k + 1), pOk p := by
            intro p hpm
            rw [List.take_add_one, HX.out] at hpm
            rcases List.mem_append.1 hpm with hpm | hpm
            · exact HS.out p hpm
            · simp at hpm; subst hpm; exact hp
          exact this
        have HSET := Lib.hid (holds_set HL.out HX.out)
        obtain ⟨T, a, hv⟩ := ifc_form (x, q, l)
        rw [hv] at C HSET
        clear hp hv
        go_wp2_with (fail)
        refine C.out.mono ?_
        rintro e w2 ⟨rfl, B2⟩
        have O2 := OV.bel B2
        obtain ⟨u, hu, e0, f0⟩ := O2.at_ (k := k) hlt
        have k0 : (0 : Int) ≤ (k : Int) := by omega
        have k1 : (k : Int) < (n : Int) := by omega
        have O3 := O2.set_ k (.iface T a)
        rw [HSET.out] at O3
        have B3 := (BV.trans (B2.mono BV.size)).setCell (p := ⟨w.heap.size, k, none⟩) (Nat.le_refl _) (.iface T a)
        clear hu
        go_wp2
        go_roundw
        case rel => exact ⟨k + 1, by omega, by go_num, HS2, O3, B3⟩
        case measure => simp [intOf]; omega
      · have C := Lib.hid (vlanPortOf_r (d := d) hHV hm (portR_no hp))
        clear hp
        go_wp2_with (fail)
        refine C.out.mono ?_
        rintro e w2 ⟨rfl, B2⟩
        go_wp2
        go_ret2
        exact ⟨rfl, BV.trans (B2.mono BV.size)⟩
    · exfalso
      obtain rfl : k = n := by omega
      have h1 := HS.out
      have h2 := HL.out
      rw [List.take_of_length_le (by omega)] at h1
      exact HN.out ⟨h1, by omega, by omega⟩
set_option maxRecDepth 100000 in
set_option maxHeartbeats 4000000 in
theorem vlanBridgeOf_yes {A : Option Addr} {n c : Nat} {ps : List Port} {w : World} (h : HasP w A n ps) (hl : LenP ps) (hok : psOk ps) :
    Calls Tryd.prog 23 #[.slice A n c] w fun e w' => e = .returned (.tuple #[.slice (some ⟨w.heap.size, 0, none⟩) n n, .bool true]) ∧ Own w' w.heap.size 64 (some ⟨w.heap.size, 0, none⟩) n n (ps.map ifc) ∧ Below w.heap.size w w' := by
  obtain ⟨i0, hi, hz0, hz1, hz2⟩ := info_parts Tryd.infoVP
  have HL := Lib.hid h.1
  have hn1 : 1 ≤ n ∧ n ≤ 6 := by have h1 := hok.2; have h2 := HL.out; omega
  have HN := Lib.hid hok
  clear hok
  have g1 : decide ((n : Int) < 1) = false := by simp; omega
  have g2 : decide ((n : Int) > 6) = false := by simp; omega
  have g3 : decide (6 < (n : Int)) = false := by simp; omega
  go_enter Tryd.func23, Tryd.ntmps23
  go_wp2_with (refine wpList_make_full _ rfl _ _ 51 rfl w.heap.size 64 i0 .nilIface 1 Tryd.underlying51 hi hz0 hz1 .i64 .i64 _ _ n rfl rfl rfl rfl (by rw [hz2]; omega) (by unfold maxLen; omega) (Nat.le_refl _) ?_; intro w1 hown hgrow)
  have O0 : Own w1 w.heap.size 64 (some ⟨w.heap.size, 0, none⟩) n n (holdsTo ps n 0) := by
    have hcap : (madeCells (Value.cells .nilIface) (n * 1)).toList = holdsTo ps n 0 := by rw [Nat.mul_one, show Value.cells .nilIface = #[.nilIface] from rfl, toList_madeCells_one]; simp [holdsTo]
    unfold Own; rw [← hcap]; exact hown
  have B0 : Below w.heap.size w w1 := below_of_grown hgrow (Nat.le_refl _) (fun k hk => by cases hk)
  clear hown hgrow
  go_loopw [22] (fun i wr => ∃ k : Nat, k ≤ n ∧ i = .int .i64 (k : Int) ∧ Own wr w.heap.size 64 (some ⟨w.heap.size, 0, none⟩) n n (holdsTo ps n k) ∧ Below w.heap.size w wr) (fun i _ => n - (intOf i).toNat)
  case atStart => exact ⟨0, Nat.zero_le _, rfl, O0, B0⟩
  case round =>
    obtain ⟨k, hk, rfl, O1, BW⟩ := hrel
    have hge := BW.size
    by_cases hlt : k < n
    · have hltB : decide ((k : Int) < (n : Int)) = true := by simp; omega
      obtain ⟨b', o, B, m, d, x, q, l, rfl, hbl, hx, c0, c1, c2, hmd, hH⟩ := (h.bel BW).at_ hlt
      have hm := hl.at_ hx hH
      obtain ⟨V, hV⟩ : ∃ V, wr.alloc (.cells #[.int .i64 x, .int .i64 q, .slice B m d] 32) = V := ⟨_, rfl⟩
      have BWV : Below wr.heap.size wr V := by rw [← hV]; exact below_allocP wr _
      have hVn : V.heap[wr.heap.size]? = some (.cells #[.int .i64 x, .int .i64 q, .slice B m d] 32 (0, 0)) := by rw [← hV]; exact heap_alloc_new wr _
      obtain ⟨d0, d1, d2⟩ := cells3K hVn
      have OV := O1.bel BWV
      have hHV := hH.bel BWV
      have BV := BW.trans (BWV.mono hge)
      have C := Lib.hid (vlanPortOf_r (d := d) hHV hm (portR_yes (HN.out.1 _ (List.mem_of_getElem? hx))))
      have HSET := Lib.hid (holds_set HL.out hx)
      obtain ⟨T, a, hv⟩ := ifc_form (x, q, l)
      rw [hv] at C HSET
      clear hx hVn hv
      go_wp2_with (fail)
      refine C.out.mono ?_
      rintro e w2 ⟨rfl, B2⟩
      have O2 := OV.bel B2
      obtain ⟨u, hu, e0, f0⟩ := O2.at_ (k := k) hlt
      have k0 : (0 : Int) ≤ (k : Int) := by omega
      have k1 : (k : Int) < (n : Int) := by omega
      have O3 := O2.set_ k (.iface T a)
      rw [HSET.out] at O3
      have B3 := (BV.trans (B2.mono BV.size)).setCell (p := ⟨w.heap.size, k, none⟩) (Nat.le_refl _) (.iface T a)
      clear hu
      go_wp2
      go_roundw
      case rel => exact ⟨k + 1, by omega, by go_num, O3, B3⟩
      case measure => simp [intOf]; omega
    · have hltB : decide ((k : Int) < (n : Int)) = false := by simp; omega
      obtain rfl : k = n := by omega
      have HE := Lib.hid (show holdsTo ps k k = ps.map ifc by unfold holdsTo; rw [List.take_of_length_le (by have := HL.out; omega), Nat.sub_self]; simp)
      rw [HE.out] at O1
      go_wp2
      go_ret2
      exact ⟨rfl, O1, BW⟩

theorem implVPortsValid_b {A : Option Addr} {n c : Nat} {ps : List Port} {w : World} {b : Bool} (h : HasP w A n ps) (hn : n ≤ 16777216) (hl : LenP ps) (hb : decide (psOk ps) = b) :
    Calls Tryd.prog 9 #[.slice A n c] w fun e w' => e = .returned (.bool b) ∧ Below w.heap.size w w' := by
  have HB := Lib.hid hb
  clear hb
  by_cases hok : psOk ps
  · have C := Lib.hid (vlanBridgeOf_yes (c := c) h hl hok)
    have HE := Lib.hid (decide_eq_true hok)
    clear hok
    go_enter Tryd.func9, Tryd.ntmps9
    go_wp2_with (fail)
    refine C.out.mono ?_
    rintro e w1 ⟨rfl, _, B1⟩
    go_wp2
    go_ret
    exact ⟨ret_bool (HE.out.symm.trans HB.out), B1⟩
  · have C := Lib.hid (vlanBridgeOf_no (c := c) h hn hl hok)
    have HE := Lib.hid (decide_eq_false hok)
    clear hok
    go_enter Tryd.func9, Tryd.ntmps9
    go_wp2_with (fail)
    refine C.out.mono ?_
    rintro e w1 ⟨rfl, B1⟩
    go_wp2
    go_ret
    exact ⟨ret_bool (HE.out.symm.trans HB.out), B1⟩

theorem isPort_any (a b : Int) (w : World) : Calls Tryd.prog 24 #[.int .i64 a, .int .i64 b] w fun e w' => e = .returned (.bool (decide (0 ≤ a ∧ a < b))) ∧ w = w' := by
  by_cases h1 : 0 ≤ a
  · have g1 : decide (a ≥ 0) = true := by simp; omega
    have g1' : decide (0 ≤ a) = true := by simp; omega
    by_cases h2 : a < b
    · have g2 : decide (a < b) = true := by simp; omega
      rw [show decide (0 ≤ a ∧ a < b) = true by simp; omega]
      clear h1 h2
      go_enter Tryd.func24, Tryd.ntmps24
      go_wp2
      go_ret
      exact ⟨rfl, rfl⟩
    · have g2 : decide (a < b) = false := by simp; omega
      rw [show decide (0 ≤ a ∧ a < b) = false by simp; omega]
      clear h1 h2
      go_enter Tryd.func24, Tryd.ntmps24
      go_wp2
      go_ret
      exact ⟨rfl, rfl⟩
  · have g1 : decide (a ≥ 0) = false := by simp; omega
    have g1' : decide (0 ≤ a) = false := by simp; omega
    rw [show decide (0 ≤ a ∧ a < b) = false by simp; omega]
    clear h1
    go_enter Tryd.func24, Tryd.ntmps24
    go_wp2
    go_ret
    exact ⟨rfl, rfl⟩
theorem isPort_yes {a b : Int} (w : World) (h : 0 ≤ a ∧ a < b) : Calls Tryd.prog 24 #[.int .i64 a, .int .i64 b] w fun e w' => e = .returned (.bool true) ∧ w = w' := by have := isPort_any a b w; rwa [decide_eq_true h] at this
theorem isPort_no {a b : Int} (w : World) (h : ¬ (0 ≤ a ∧ a < b)) : Calls Tryd.prog 24 #[.int .i64 a, .int .i64 b] w fun e w' => e = .returned (.bool false) ∧ w = w' := by have := isPort_any a b w; rwa [decide_eq_false h] at this

/-- A port of a bridge, asked through its interface with which tag a frame goes out. -/
theorem ifc_outs {p : Port} (h : pOk p) (v : Int) :
    (∃ q s : Int, ifc p = .iface 89 (.agg #[.int .i64 q, .int .u64 s]) ∧ (∀ w, (method 214 89 (.agg #[.int .i64 q, .int .u64 s]) "loop.example/wholenet/impl.tagOut").run Tryd.prog w = .ok (71, .agg #[.int .i64 q, .int .u64 s]) w) ∧ ∀ W, Calls Tryd.prog 71 #[.agg #[.int .i64 q, .int .u64 s], .int .i64 v] W fun e w' => e = .returned (.int .i64 (outI p v)) ∧ Below W.heap.size W w') ∨
    (∃ q : Int, ifc p = .iface 87 (.agg #[.int .i64 q]) ∧ (∀ w, (method 214 87 (.agg #[.int .i64 q]) "loop.example/wholenet/impl.tagOut").run Tryd.prog w = .ok (68, .agg #[.int .i64 q]) w) ∧ ∀ W, Calls Tryd.prog 68 #[.agg #[.int .i64 q], .int .i64 v] W fun e w' => e = .returned (.int .i64 (outI p v)) ∧ Below W.heap.size W w') := by
  obtain ⟨x, q, l⟩ := p
  by_cases hx : x = 2
  · exact .inl ⟨q, _, ifc_two hx, m_trunkOut q _, fun W => trunkOut_r W h.2.2.2.1 (out_two h)⟩
  · exact .inr ⟨q, ifc_one hx, m_plainOut q, fun W => plainOut_r W (out_one h hx)⟩
theorem ifc_ins {p : Port} (h : pOk p) (v : Int) :
    (∃ q s : Int, ifc p = .iface 89 (.agg #[.int .i64 q, .int .u64 s]) ∧ (∀ w, (method 214 89 (.agg #[.int .i64 q, .int .u64 s]) "loop.example/wholenet/impl.vlanIn").run Tryd.prog w = .ok (72, .agg #[.int .i64 q, .int .u64 s]) w) ∧ ∀ W, Calls Tryd.prog 72 #[.agg #[.int .i64 q, .int .u64 s], .int .i64 v] W fun e w' => e = .returned (.int .i64 (inI p v)) ∧ Below W.heap.size W w') ∨
    (∃ q : Int, ifc p = .iface 87 (.agg #[.int .i64 q]) ∧ (∀ w, (method 214 87 (.agg #[.int .i64 q]) "loop.example/wholenet/impl.vlanIn").run Tryd.prog w = .ok (69, .agg #[.int .i64 q]) w) ∧ ∀ W, Calls Tryd.prog 69 #[.agg #[.int .i64 q], .int .i64 v] W fun e w' => e = .returned (.int .i64 (inI p v)) ∧ Below W.heap.size W w') := by
  obtain ⟨x, q, l⟩ := p
  by_cases hx : x = 2
  · exact .inl ⟨q, _, ifc_two hx, m_trunkIn q _, fun W => trunkIn_r W h.2.2.2.1 (in_two h)⟩
  · exact .inr ⟨q, ifc_one hx, m_plainIn q, fun W => plainIn_r W (in_one h hx)⟩
end Go.Proofs.YtiokieancjigeaaDoor
