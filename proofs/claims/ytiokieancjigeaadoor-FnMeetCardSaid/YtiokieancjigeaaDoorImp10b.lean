/-
  Chapter 10's program, one port behind an interface: what is proved here is what vlanPortOf, the methods of both kinds, VlanIn and TagOut return, and that they write nothing that was there. Condition: lengths up to 2^24.
-/
import Derived.Test.YtiokieancjigeaaDoorImp10a
namespace Go.Proofs.YtiokieancjigeaaDoor
open Go.RowKit

/-- A port as the program holds it. -/
def ifc (p : Port) : Value := if p.1 = 2 then .iface 89 (.agg #[.int .i64 p.2.1, .int .u64 (vset p.2.2 : Int)]) else .iface 87 (.agg #[.int .i64 p.2.1])
def portR (p : Port) : Value × Bool := if pOk p then (ifc p, true) else (.nilIface, false)
theorem portR_yes {p : Port} (h : pOk p) : portR p = (ifc p, true) := by unfold portR; rw [if_pos h]
theorem portR_no {p : Port} (h : ¬ pOk p) : portR p = (.nilIface, false) := by unfold portR; rw [if_neg h]
theorem ifc_two {x q : Int} {l : List Int} (h : x = 2) : ifc (x, q, l) = .iface 89 (.agg #[.int .i64 q, .int .u64 (vset l : Int)]) := by unfold ifc; rw [if_pos h]
theorem ifc_one {x q : Int} {l : List Int} (h : x ≠ 2) : ifc (x, q, l) = .iface 87 (.agg #[.int .i64 q]) := by unfold ifc; rw [if_neg h]
theorem ret_port {v v' : Value} {b b' : Bool} (h : (v, b) = (v', b')) : Ending.returned (.tuple #[v, .bool b]) = .returned (.tuple #[v', .bool b']) := by cases h; rfl
theorem vset_zero {l : List Int} : vset l = 0 ↔ l = [] := by
  cases l with
  | nil => simp [vset]
  | cons x t =>
    have : 0 < 2 ^ x.toNat := Nat.two_pow_pos _
    constructor
    · intro h; simp only [vset] at h; omega
    · intro h; cases h

set_option maxRecDepth 100000 in
set_option maxHeartbeats 4000000 in
theorem vlanPortOf_r {B : Option Addr} {m d : Nat} {x q : Int} {l : List Int} {w : World} {v : Value} {b : Bool} (h : Has w B m (ints .i64 l)) (hm : m ≤ 16777216) (hr : portR (x, q, l) = (v, b)) :
    Calls Tryd.prog 31 #[.agg #[.int .i64 x, .int .i64 q, .slice B m d]] w fun e w' => e = .returned (.tuple #[v, .bool b]) ∧ Below w.heap.size w w' := by
  have HR := Lib.hid hr
  clear hr
  obtain ⟨W, hW⟩ : ∃ W, w.alloc (.cells #[.int .i64 x, .int .i64 q, .slice B m d] 32) = W := ⟨_, rfl⟩
  have BA : Below w.heap.size w W := by rw [← hW]; exact below_allocP w _
  have hWn : W.heap[w.heap.size]? = some (.cells #[.int .i64 x, .int .i64 q, .slice B m d] 32 (0, 0)) := by rw [← hW]; exact heap_alloc_new w _
  obtain ⟨c0, c1, c2⟩ := cells3K hWn
  have hW2 := h.bel BA
  by_cases hv : vOk l
  rotate_left
  · have C := Lib.hid (vlanSetOf_r (c := d) hW2 hm (setR_no hv))
    have HE := Lib.hid (portR_no (p := (x, q, l)) (fun hh => hv hh.2.2.2.1))
    clear hv hWn
    go_enter Tryd.func31, Tryd.ntmps31
    go_wp2_with (fail)
    refine C.out.mono ?_
    rintro e w' ⟨rfl, rfl⟩
    go_wp2
    go_ret2
    exact ⟨ret_port (HE.out.symm.trans HR.out), BA⟩
  have C := Lib.hid (vlanSetOf_r (c := d) hW2 hm (setR_yes hv))
  by_cases hq : 1 ≤ q ∧ q ≤ 9
  rotate_left
  · have C2 := Lib.hid (isVlan_no W hq)
    have HE := Lib.hid (portR_no (p := (x, q, l)) (fun hh => hq hh.2.1))
    clear hv hWn hq
    go_enter Tryd.func31, Tryd.ntmps31
    go_wp2_with (fail)
    refine C.out.mono ?_
    rintro e w' ⟨rfl, rfl⟩
    go_wp2_with (fail)
    refine C2.out.mono ?_
    rintro e w' ⟨rfl, rfl⟩
    go_wp2
    go_ret2
    exact ⟨ret_port (HE.out.symm.trans HR.out), BA⟩
  have C2 := Lib.hid (isVlan_yes W hq)
  have hsm := vset_small hv
  by_cases hc : q ∈ l
  · have C3 := Lib.hid (has_b W hsm ((hasS_of hv q).trans (decide_eq_true hc)))
    have HE := Lib.hid (portR_no (p := (x, q, l)) (fun hh => hh.2.2.2.2 q hc rfl))
    clear hv hWn hq hc hsm
    go_enter Tryd.func31, Tryd.ntmps31
    go_wp2_with (fail)
    refine C.out.mono ?_
    rintro e w' ⟨rfl, rfl⟩
    go_wp2_with (fail)
    refine C2.out.mono ?_
    rintro e w' ⟨rfl, rfl⟩
    go_wp2_with (fail)
    refine C3.out.mono ?_
    rintro e w' ⟨rfl, rfl⟩
    go_wp2
    go_ret2
    exact ⟨ret_port (HE.out.symm.trans HR.out), BA⟩
  have C3 := Lib.hid (has_b W hsm ((hasS_of hv q).trans (decide_eq_false hc)))
  have HOK : Hid ((1 ≤ x ∧ x ≤ 2) → (x = 1 → l = []) → pOk (x, q, l)) := fun h1 h2 => ⟨h1, hq, h2, hv, fun v hvl he => by have he2 : v = q := he; exact hc (he2 ▸ hvl)⟩
  obtain ⟨V, hV⟩ : ∃ V, W.alloc (.cells #[.int .i64 q] 87) = V := ⟨_, rfl⟩
  have BWV : Below W.heap.size W V := by rw [← hV]; exact below_allocP W _
  have BP : Below w.heap.size w V := bel_trans BA BWV
  have hPn : V.heap[W.heap.size]? = some (.cells #[.int .i64 q] 87 (0, 0)) := by rw [← hV]; exact heap_alloc_new W _
  have f0 := (cell_of_row V W.heap.size 0 _ _ (0, 0) hPn).trans rfl
  obtain ⟨g0, g1, g2⟩ := cells3K (heap_belP BWV hWn)
  by_cases hx2 : x = 2
  · have xB : (x == 2) = true := by simp [hx2]
    have HE := Lib.hid ((portR_yes (HOK.out (by omega) (fun h1 => by omega))).trans (by rw [ifc_two hx2]))
    clear hv hWn hq hc hsm hx2 hPn
    go_enter Tryd.func31, Tryd.ntmps31
    go_wp2_with (fail)
    refine C.out.mono ?_
    rintro e w' ⟨rfl, rfl⟩
    go_wp2_with (fail)
    refine C2.out.mono ?_
    rintro e w' ⟨rfl, rfl⟩
    go_wp2_with (fail)
    refine C3.out.mono ?_
    rintro e w' ⟨rfl, rfl⟩
    go_wp2
    go_ret2
    exact ⟨ret_port (HE.out.symm.trans HR.out), BP⟩
  have xB : (x == 2) = false := by simp [hx2]
  by_cases hx1 : x = 1
  rotate_left
  · have xC : (x == 1) = false := by simp [hx1]
    have HE := Lib.hid (portR_no (p := (x, q, l)) (fun hh => by have h1 : 1 ≤ x ∧ x ≤ 2 := hh.1; omega))
    clear hv hWn hq hc hsm hx2 hx1 hPn
    go_enter Tryd.func31, Tryd.ntmps31
    go_wp2_with (fail)
    refine C.out.mono ?_
    rintro e w' ⟨rfl, rfl⟩
    go_wp2_with (fail)
    refine C2.out.mono ?_
    rintro e w' ⟨rfl, rfl⟩
    go_wp2_with (fail)
    refine C3.out.mono ?_
    rintro e w' ⟨rfl, rfl⟩
    go_wp2
    go_ret2
    exact ⟨ret_port (HE.out.symm.trans HR.out), BP⟩
  have xC : (x == 1) = true := by simp [hx1]
  have HZ := Lib.hid (vset_zero (l := l))
  obtain ⟨S, hS⟩ : ∃ S, vset l = S := ⟨_, rfl⟩
  rw [hS] at C C3 HZ
  by_cases hz : S = 0
  · have zB : ((S : Int) == 0) = true := by simp [hz]
    have zC : (S == 0) = true := by simp [hz]
    have HE := Lib.hid ((portR_yes (HOK.out (by omega) (fun _ => HZ.out.1 hz))).trans (by rw [ifc_one hx2]))
    clear hv hWn hq hc hsm hx2 hx1 hz hS HZ hPn
    go_enter Tryd.func31, Tryd.ntmps31
    go_wp2_with (fail)
    refine C.out.mono ?_
    rintro e w' ⟨rfl, rfl⟩
    go_wp2_with (fail)
    refine C2.out.mono ?_
    rintro e w' ⟨rfl, rfl⟩
    go_wp2_with (fail)
    refine C3.out.mono ?_
    rintro e w' ⟨rfl, rfl⟩
    go_wp2
    go_ret2
    exact ⟨ret_port (HE.out.symm.trans HR.out), BP⟩
  · have zB : ((S : Int) == 0) = false := by simp [hz]
    have zC : (S == 0) = false := by simp [hz]
    have HE := Lib.hid (portR_no (p := (x, q, l)) (fun hh => hz (HZ.out.2 (hh.2.2.1 hx1))))
    clear hv hWn hq hc hsm hx2 hx1 hz hS HZ hPn
    go_enter Tryd.func31, Tryd.ntmps31
    go_wp2_with (fail)
    refine C.out.mono ?_
    rintro e w' ⟨rfl, rfl⟩
    go_wp2_with (fail)
    refine C2.out.mono ?_
    rintro e w' ⟨rfl, rfl⟩
    go_wp2_with (fail)
    refine C3.out.mono ?_
    rintro e w' ⟨rfl, rfl⟩
    go_wp2
    go_ret2
    exact ⟨ret_port (HE.out.symm.trans HR.out), BP⟩

/- The methods. -/
theorem cell1K {w : World} {B : Nat} {x : Value} {t : TypeId} (h : w.heap[B]? = some (.cells #[x] t (0, 0))) : w.cell? ⟨B, 0, none⟩ = some x := (cell_of_row w B 0 _ t (0, 0) h).trans rfl
theorem cell2K {w : World} {B : Nat} {x y : Value} {t : TypeId} (h : w.heap[B]? = some (.cells #[x, y] t (0, 0))) : w.cell? ⟨B, 0, none⟩ = some x ∧ w.cell? ⟨B, 1, none⟩ = some y :=
  ⟨(cell_of_row w B 0 _ t (0, 0) h).trans rfl, (cell_of_row w B 1 _ t (0, 0) h).trans rfl⟩
def outP (q v : Int) : Int := if v = q then 0 else -1
def inP (q t : Int) : Int := if t = 0 then q else -1
theorem plainOut_r {q v r : Int} (w : World) (hr : outP q v = r) : Calls Tryd.prog 68 #[.agg #[.int .i64 q], .int .i64 v] w fun e w' => e = .returned (.int .i64 r) ∧ Below w.heap.size w w' := by
  have HR := Lib.hid hr
  clear hr
  have BA := below_allocP w (.cells #[.int .i64 q] 87)
  have hWn := heap_alloc_new w (.cells #[.int .i64 q] 87)
  have c0 := cell1K hWn
  by_cases h : v = q
  · have vB : (v != q) = false := by simp [h]
    have HE := Lib.hid (show outP q v = 0 by unfold outP; rw [if_pos h])
    clear h
    go_enter Tryd.func68, Tryd.ntmps68
    go_wp2
    go_ret
    exact ⟨ret_int (HE.out.symm.trans HR.out), BA⟩
  · have vB : (v != q) = true := by simp [h]
    have HE := Lib.hid (show outP q v = -1 by unfold outP; rw [if_neg h])
    clear h
    go_enter Tryd.func68, Tryd.ntmps68
    go_wp2
    go_ret
    exact ⟨ret_int (HE.out.symm.trans HR.out), BA⟩
theorem plainIn_r {q v r : Int} (w : World) (hr : inP q v = r) : Calls Tryd.prog 69 #[.agg #[.int .i64 q], .int .i64 v] w fun e w' => e = .returned (.int .i64 r) ∧ Below w.heap.size w w' := by
  have HR := Lib.hid hr
  clear hr
  have BA := below_allocP w (.cells #[.int .i64 q] 87)
  have hWn := heap_alloc_new w (.cells #[.int .i64 q] 87)
  have c0 := cell1K hWn
  by_cases h : v = 0
  · have vB : (v != 0) = false := by simp [h]
    have HE := Lib.hid (show inP q v = q by unfold inP; rw [if_pos h])
    clear h
    go_enter Tryd.func69, Tryd.ntmps69
    go_wp2
    go_ret
    exact ⟨ret_int (HE.out.symm.trans HR.out), BA⟩
  · have vB : (v != 0) = true := by simp [h]
    have HE := Lib.hid (show inP q v = -1 by unfold inP; rw [if_neg h])
    clear h
    go_enter Tryd.func69, Tryd.ntmps69
    go_wp2
    go_ret
    exact ⟨ret_int (HE.out.symm.trans HR.out), BA⟩
theorem trunkOut_r {q v r : Int} {l : List Int} (w : World) (hv : vOk l) (hr : (if v ∈ l then v else outP q v) = r) : Calls Tryd.prog 71 #[.agg #[.int .i64 q, .int .u64 (vset l : Int)], .int .i64 v] w fun e w' => e = .returned (.int .i64 r) ∧ Below w.heap.size w w' := by
  have HR := Lib.hid hr
  clear hr
  obtain ⟨W, hW⟩ : ∃ W, w.alloc (.cells #[.int .i64 q, .int .u64 (vset l : Int)] 89) = W := ⟨_, rfl⟩
  have BA : Below w.heap.size w W := by rw [← hW]; exact below_allocP w _
  have hWn : W.heap[w.heap.size]? = some (.cells #[.int .i64 q, .int .u64 (vset l : Int)] 89 (0, 0)) := by rw [← hW]; exact heap_alloc_new w _
  obtain ⟨c0, c1⟩ := cell2K hWn
  have hsm := vset_small hv
  by_cases h : v ∈ l
  · have C := Lib.hid (has_b W hsm ((hasS_of hv v).trans (decide_eq_true h)))
    have HE := Lib.hid (show (if v ∈ l then v else outP q v) = v by rw [if_pos h])
    clear h hv hsm
    go_enter Tryd.func71, Tryd.ntmps71
    go_wp2_with (fail)
    refine C.out.mono ?_
    rintro e w' ⟨rfl, rfl⟩
    go_wp2
    go_ret
    exact ⟨ret_int (HE.out.symm.trans HR.out), BA⟩
  · have C := Lib.hid (has_b W hsm ((hasS_of hv v).trans (decide_eq_false h)))
    have HE := Lib.hid (show (if v ∈ l then v else outP q v) = outP q v by rw [if_neg h])
    have C2 := Lib.hid (plainOut_r (q := q) (v := v) W rfl)
    clear h hv hsm
    go_enter Tryd.func71, Tryd.ntmps71
    go_wp2_with (fail)
    refine C.out.mono ?_
    rintro e w' ⟨rfl, rfl⟩
    go_wp2_with (fail)
    refine C2.out.mono ?_
    rintro e w2 ⟨rfl, B2⟩
    go_wp2
    go_ret
    exact ⟨ret_int (HE.out.symm.trans HR.out), bel_trans BA B2⟩
theorem trunkIn_r {q v r : Int} {l : List Int} (w : World) (hv : vOk l) (hr : (if v ∈ l then v else inP q v) = r) : Calls Tryd.prog 72 #[.agg #[.int .i64 q, .int .u64 (vset l : Int)], .int .i64 v] w fun e w' => e = .returned (.int .i64 r) ∧ Below w.heap.size w w' := by
  have HR := Lib.hid hr
  clear hr
  obtain ⟨W, hW⟩ : ∃ W, w.alloc (.cells #[.int .i64 q, .int .u64 (vset l : Int)] 89) = W := ⟨_, rfl⟩
  have BA : Below w.heap.size w W := by rw [← hW]; exact below_allocP w _
  have hWn : W.heap[w.heap.size]? = some (.cells #[.int .i64 q, .int .u64 (vset l : Int)] 89 (0, 0)) := by rw [← hW]; exact heap_alloc_new w _
  obtain ⟨c0, c1⟩ := cell2K hWn
  have hsm := vset_small hv
  by_cases h : v ∈ l
  · have C := Lib.hid (has_b W hsm ((hasS_of hv v).trans (decide_eq_true h)))
    have HE := Lib.hid (show (if v ∈ l then v else inP q v) = v by rw [if_pos h])
    clear h hv hsm
    go_enter Tryd.func72, Tryd.ntmps72
    go_wp2_with (fail)
    refine C.out.mono ?_
    rintro e w' ⟨rfl, rfl⟩
    go_wp2
    go_ret
    exact ⟨ret_int (HE.out.symm.trans HR.out), BA⟩
  · have C := Lib.hid (has_b W hsm ((hasS_of hv v).trans (decide_eq_false h)))
    have HE := Lib.hid (show (if v ∈ l then v else inP q v) = inP q v by rw [if_neg h])
    have C2 := Lib.hid (plainIn_r (q := q) (v := v) W rfl)
    clear h hv hsm
    go_enter Tryd.func72, Tryd.ntmps72
    go_wp2_with (fail)
    refine C.out.mono ?_
    rintro e w' ⟨rfl, rfl⟩
    go_wp2_with (fail)
    refine C2.out.mono ?_
    rintro e w2 ⟨rfl, B2⟩
    go_wp2
    go_ret
    exact ⟨ret_int (HE.out.symm.trans HR.out), bel_trans BA B2⟩
theorem out_two {x q v : Int} {l : List Int} (h : pOk (x, q, l)) : (if v ∈ l then v else outP q v) = outI (x, q, l) v := by
  unfold outI outP
  rw [if_pos h]
  by_cases h1 : v = q
  · rw [if_pos h1, if_neg (fun hm => h.2.2.2.2 v hm h1), if_pos h1]
  · rw [if_neg h1, if_neg h1]
theorem out_one {x q v : Int} {l : List Int} (h : pOk (x, q, l)) (h2 : x ≠ 2) : outP q v = outI (x, q, l) v := by
  have hl : l = [] := h.2.2.1 (by have h1 : 1 ≤ x ∧ x ≤ 2 := h.1; show x = 1; omega)
  unfold outI outP
  rw [if_pos h]
  simp [hl]
theorem in_two {x q t : Int} {l : List Int} (h : pOk (x, q, l)) : (if t ∈ l then t else inP q t) = inI (x, q, l) t := by
  unfold inI inP
  rw [if_pos h]
  by_cases h1 : t = 0
  · rw [if_pos h1, if_neg (fun hm => by have := h.2.2.2.1.1 t hm; omega), if_pos h1]
  · rw [if_neg h1, if_neg h1]
theorem in_one {x q t : Int} {l : List Int} (h : pOk (x, q, l)) (h2 : x ≠ 2) : inP q t = inI (x, q, l) t := by
  have hl : l = [] := h.2.2.1 (by have h1 : 1 ≤ x ∧ x ≤ 2 := h.1; show x = 1; omega)
  unfold inI inP
  rw [if_pos h]
  simp [hl]

theorem m_plainOut (q : Int) (w : World) : (method 214 87 (.agg #[.int .i64 q]) "loop.example/wholenet/impl.tagOut").run Tryd.prog w = .ok (68, .agg #[.int .i64 q]) w := by kernel_rfl
theorem m_plainIn (q : Int) (w : World) : (method 214 87 (.agg #[.int .i64 q]) "loop.example/wholenet/impl.vlanIn").run Tryd.prog w = .ok (69, .agg #[.int .i64 q]) w := by kernel_rfl
theorem m_trunkOut (q s : Int) (w : World) : (method 214 89 (.agg #[.int .i64 q, .int .u64 s]) "loop.example/wholenet/impl.tagOut").run Tryd.prog w = .ok (71, .agg #[.int .i64 q, .int .u64 s]) w := by kernel_rfl
theorem m_trunkIn (q s : Int) (w : World) : (method 214 89 (.agg #[.int .i64 q, .int .u64 s]) "loop.example/wholenet/impl.vlanIn").run Tryd.prog w = .ok (72, .agg #[.int .i64 q, .int .u64 s]) w := by kernel_rfl

set_option maxHeartbeats 2000000 in
theorem implTagOut_r {B : Option Addr} {m d : Nat} {x q t : Int} {l : List Int} {w : World} {r : Int} (h : Has w B m (ints .i64 l)) (hm : m ≤ 16777216) (hr : outI (x, q, l) t = r) :
    Calls Tryd.prog 10 #[.agg #[.int .i64 x, .int .i64 q, .slice B m d], .int .i64 t] w fun e w' => e = .returned (.int .i64 r) ∧ Below w.heap.size w w' := by
  have HR := Lib.hid hr
  clear hr
  obtain ⟨W, hW⟩ : ∃ W, w.alloc (.cells #[.int .i64 x, .int .i64 q, .slice B m d] 32) = W := ⟨_, rfl⟩
  have BA : Below w.heap.size w W := by rw [← hW]; exact below_allocP w _
  have hWn : W.heap[w.heap.size]? = some (.cells #[.int .i64 x, .int .i64 q, .slice B m d] 32 (0, 0)) := by rw [← hW]; exact heap_alloc_new w _
  obtain ⟨c0, c1, c2⟩ := cells3K hWn
  have hW2 := h.bel BA
  by_cases hp : pOk (x, q, l)
  rotate_left
  · have C := Lib.hid (vlanPortOf_r (d := d) hW2 hm (portR_no hp))
    have HE := Lib.hid (out_no hp t)
    clear hp hWn
    go_enter Tryd.func10, Tryd.ntmps10
    go_wp2_with (fail)
    refine C.out.mono ?_
    rintro e w1 ⟨rfl, B1⟩
    go_wp2
    go_ret
    exact ⟨ret_int (HE.out.symm.trans HR.out), bel_trans BA B1⟩
  by_cases hx : x = 2
  · have C := Lib.hid (vlanPortOf_r (d := d) hW2 hm ((portR_yes hp).trans (by rw [ifc_two hx])))
    have hv : vOk l := hp.2.2.2.1
    have HE := Lib.hid (out_two (v := t) hp)
    have C2 := Lib.hid (fun W' => trunkOut_r (q := q) (v := t) (l := l) W' hv (HE.out.trans HR.out))
    have hM := m_trunkOut q (vset l : Int)
    clear hp hWn hx hv
    go_enter Tryd.func10, Tryd.ntmps10
    go_wp2_with (fail)
    refine C.out.mono ?_
    rintro e w1 ⟨rfl, B1⟩
    go_wp2_with (fail)
    refine (C2.out _).mono ?_
    rintro e w2 ⟨rfl, B2⟩
    go_wp2
    go_ret
    exact ⟨rfl, bel_trans (bel_trans BA B1) B2⟩
  · have C := Lib.hid (vlanPortOf_r (d := d) hW2 hm ((portR_yes hp).trans (by rw [ifc_one hx])))
    have HE := Lib.hid (out_one (v := t) hp hx)
    have C2 := Lib.hid (fun W' => plainOut_r (q := q) (v := t) W' (HE.out.trans HR.out))
    have hM := m_plainOut q
    clear hp hWn hx
    go_enter Tryd.func10, Tryd.ntmps10
    go_wp2_with (fail)
    refine C.out.mono ?_
    rintro e w1 ⟨rfl, B1⟩
    go_wp2_with (fail)
    refine (C2.out _).mono ?_
    rintro e w2 ⟨rfl, B2⟩
    go_wp2
    go_ret
    exact ⟨rfl, bel_trans (bel_trans BA B1) B2⟩
end Go.Proofs.YtiokieancjigeaaDoor
