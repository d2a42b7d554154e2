/-
  The laws' own words for frames: what is proved here is how a part of a list is taken, how lists are put together, how two lists of ints are compared, and what wnAtTimes returns. Condition: lengths up to 2^24.
-/
import Derived.Test.YtnloejcfakcpfaaDrawShp
import Derived.Test.YtnloejcfakcpfaaShpLaws
import Derived.Deep.Upon
namespace Go.Proofs.Ytnloejcfakcpfaa
open Go.RowKit

theorem atToS_app (k : IntKind) (a b : List Int) : ints k (a ++ b) = ints k a ++ ints k b := by simp [ints]
/-- 'list[l:]' of rows of two. -/
theorem run_tailD {P : Program} {w : World} {t e : TypeId} (ht : P.underlying t = some (.slice e)) (hz : ∀ w, (Go.sizeOf e).run P w = .ok 2 w) {A : Option Addr} {n c l : Nat} {hs : List Duo} {z : Int} (h : HasD w A n hs) (hnc : n ≤ c) (hl : l < n) (hlz : z = (l : Int)) :
    ∃ B, (∀ W, (Instr.slice t (.slice A n c) (some (.int .i64 z)) none none).run P W = .ok (.slice B (n - l) (c - l)) W) ∧ HasD w B (n - l) (hs.drop l) := by
  subst hlz
  have ht' : P.underlying t = some (.slice (P.elem t)) := by simp [Program.elem, ht]
  have he : P.elem t = e := by simp [Program.elem, ht]
  have hxl := h.1
  obtain ⟨b, o, _, hA, _⟩ := h.2 0 (by omega)
  subst hA
  have hc : ¬ c = l := by omega
  refine ⟨some ⟨b, o + l * 2, none⟩, fun W => ?_, by simp [hxl], fun i hi => ?_⟩
  · rw [run_slice_l W t _ _ _ ht' .i64 _ (by omega) (by omega), he, hz]
    by_cases h0 : l = 0
    · subst h0; simp [Result.andThen, sliced, Addr.add, hc]
    · have hl2 : ¬ l * 2 = 0 := by omega
      simp [Result.andThen, sliced, Addr.add, hc, hl2]
  · obtain ⟨b', o', x, hA, hx, c0, c1⟩ := h.2 (l + i) (by omega)
    injection hA with hA
    injection hA with e1 e2
    subst e1 e2
    exact ⟨b, o + l * 2, x, rfl, by rw [List.getElem?_drop]; exact hx, by rw [show o + l * 2 + i * 2 = o + (l + i) * 2 by omega]; exact c0, by rw [show o + l * 2 + i * 2 + 1 = o + (l + i) * 2 + 1 by omega]; exact c1⟩
/-- 'list[:k]'. -/
theorem run_frontS {P : Program} {t e : TypeId} {sz : Nat} (ht : P.underlying t = some (.slice e)) (hz : ∀ w, (Go.sizeOf e).run P w = .ok sz w) {b o n c k : Nat} {z : Int} (hk : k ≤ c) (hzk : z = (k : Int)) :
    ∀ W, (Instr.slice t (.slice (some ⟨b, o, none⟩) n c) none (some (.int .i64 z)) none).run P W = .ok (.slice (some ⟨b, o, none⟩) k c) W := fun W => by
  subst hzk
  have ht' : P.underlying t = some (.slice (P.elem t)) := by simp [Program.elem, ht]
  have he : P.elem t = e := by simp [Program.elem, ht]
  rw [run_slice_h W t _ _ _ ht' .i64 _ (by omega) (by omega), he, hz]
  simp [Result.andThen, sliced, Addr.add]
theorem HasD.front {w : World} {A : Option Addr} {n k : Nat} {hs : List Duo} (h : HasD w A n hs) (hk : k ≤ n) : HasD w A k (hs.take k) :=
  ⟨by rw [List.length_take, h.1]; omega, fun i hi => by
    obtain ⟨b, o, x, hA, hx, c0, c1⟩ := h.2 i (by omega)
    exact ⟨b, o, x, hA, by rw [List.getElem?_take_of_lt hi]; exact hx, c0, c1⟩⟩
theorem Has.front14 {w : World} {A : Option Addr} {n k : Nat} {zs : List Int} (h : Has w A n (ints .i64 zs)) (hk : k ≤ n) : Has w A k (ints .i64 (zs.take k)) := by
  have hl := h.len
  refine ⟨by rw [ints_length, List.length_take]; omega, fun i hi => ?_⟩
  obtain ⟨b, o, hA, hc⟩ := h.2 i (by omega)
  refine ⟨b, o, hA, ?_⟩
  rw [hc]
  unfold ints
  rw [List.getElem?_map, List.getElem?_map, List.getElem?_take_of_lt hi]

/-- 'append(own, list...)' at a step of a region that draws its order. -/
theorem step_appD {P : Program} {ops : Array Oper} {o : Oper} {a : Act} {K : Act → World → Prop} {Q : Exit → Act → World → Prop} {E : Prop} (w : World) (hgd : o.guard = none) (s x : Operand) (t : TypeId)
    (ho : o.op = .call { callee := .builtin .append, args := #[s, x], argTypes := #[t, t] })
    (lo : Nat) (e : TypeId) (i : TypeInfo) (z : Value) (bytes : Nat) (ht : P.underlying t = some (.slice e)) (hi : P.info? e = some i) (hz : i.zero = some z) (hsize : i.size = 2) (hby : i.bytes = bytes) (hzs : z.cells.size = 2)
    (A : Option Addr) (n c : Nat) (js : List Duo) (hs : a.eval s = .slice A n c) (hown : OwnD w lo e A n c js) (B : Option Addr) (m c' : Nat) (ks : List Duo) (hx : a.eval x = .slice B m c') (hr : HasD w B m ks)
    (h63 : n + m ≤ 1000000) (hbytes : bytes ≤ 64) (hlo : lo ≤ w.heap.size)
    (h : ∀ A' cap w', OwnD w' lo e A' (n + m) cap (js ++ ks) → w.grownBy w' (A.map (·.block)) → K (a.put o.dst (.slice A' (n + m) cap)) w') :
    if Region.wanted o (yielded ops a.tmps) = true then Oper.wp P o a w K Q else E := by
  have hb : (A.map (·.block)) = (Value.slice A n c).ownBlock := by cases A <;> rfl
  by_cases hm : m = 0
  · subst hm
    obtain rfl : ks = [] := List.eq_nil_of_length_eq_zero hr.1
    have hw : Region.wanted o (yielded ops a.tmps) = true := by simp [Region.wanted, hgd]
    rw [if_pos hw]
    unfold Oper.wp execOp
    have hc0 : (Builtin.append_ #[t, t] o.type #[.slice A n c, .slice B 0 c']).run P w = .ok (.slice A n c) w := by
      rcases hown.2 with ⟨h', _⟩ | ⟨g, cap, cur, h', _, _, hnc, _⟩
      · cases h'; cases B <;> simp [Builtin.append_, run_underlying ht, sizeOf, typeInfo, hi, Builtin.lenOf, Builtin.firstCells, loadCells, loadCellsFrom]
      · cases h'; cases B <;> simp [Builtin.append_, run_underlying ht, sizeOf, typeInfo, hi, Builtin.lenOf, Builtin.firstCells, hnc, storeCells, loadCells, loadCellsFrom]
    simp only [ho, resolve, invoke, builtin, Sem.run_bind, Sem.run_pure, Result.andThen_ok, List.map_toArray, List.map_cons, List.map_nil, hs, hx]
    rw [hc0]
    exact h A c w (by simpa using hown) (World.grownBy.refl _ _)
  · obtain ⟨b, o', _, hA, _⟩ := hr.2 0 (by omega)
    subst hA
    refine step_append_lies w hgd s x t ho lo e i z 2 bytes ht hi hz hsize hby hzs (by decide) _ n (flatD js) hs hown ⟨b, o', none⟩ m c' (flatD ks) hx (by rw [flatD_len, hr.1]) ?_ ?_ (by omega) (by unfold maxLen; omega) ?_ hlo _ rfl ?_
    · intro j y hy
      have hadd : (⟨b, o', none⟩ : Addr).add j = ⟨b, o' + j, none⟩ := by unfold Addr.add; split <;> simp_all
      rw [hadd]
      have hj : j < m * 2 := by have := (List.getElem?_eq_some_iff.1 hy).1; rw [flatD_len, hr.1] at this; exact this
      obtain ⟨b2, o2, q, hA, hq, c0, c1⟩ := hr.2 (j / 2) (by omega)
      injection hA with hA
      injection hA with e1 e2
      subst e1 e2
      obtain ⟨f0, f1⟩ := flatD_at ks (j / 2) q hq
      have hj2 : j = j / 2 * 2 ∨ j = j / 2 * 2 + 1 := by omega
      rcases hj2 with hj2 | hj2
      · rw [hj2] at hy ⊢; rw [f0] at hy; injection hy with hy; rw [← hy]; exact c0
      · rw [hj2] at hy ⊢; rw [f1] at hy; injection hy with hy; rw [← hy, ← Nat.add_assoc]; exact c1
    · intro u hu
      obtain ⟨j, hj⟩ := List.getElem?_of_mem hu
      have hjl := (List.getElem?_eq_some_iff.1 hj).1
      rw [flatD_len] at hjl
      obtain ⟨q, hq⟩ : ∃ q, ks[j / 2]? = some q := ⟨_, List.getElem?_eq_getElem (by omega)⟩
      obtain ⟨f0, f1⟩ := flatD_at ks (j / 2) q hq
      have hj2 : j = j / 2 * 2 ∨ j = j / 2 * 2 + 1 := by omega
      rcases hj2 with hj2 | hj2
      · rw [hj2, f0] at hj; injection hj with hj; rw [← hj]; rfl
      · rw [hj2, f1] at hj; injection hj with hj; rw [← hj]; rfl
    · calc (n + m) * bytes ≤ 1000000 * 64 := Nat.mul_le_mul h63 hbytes
        _ ≤ 140737488355328 := by decide
    · intro g cap w' h2 h3 _ _
      exact h _ cap w' (by unfold OwnD; rw [flatD_app]; exact h2) (by rw [hb]; exact h3)

set_option maxHeartbeats 1000000 in
theorem wnInts_dec {A A' : Option Addr} {n c n' c' : Nat} {xs ys : List Int} {w : World} {v : Bool} (h : Has w A n (ints .i64 xs)) (h' : Has w A' n' (ints .i64 ys)) (hn : n ≤ 16777216) (hn' : n' ≤ 16777216) (hv : decide (xs = ys) = v) :
    Calls Try.prog 26 #[.slice A n c, .slice A' n' c'] w fun e w' => e = .returned (.bool v) ∧ w = w' := by
  have HL := Lib.hid h.len
  have HL' := Lib.hid h'.len
  have HV := Lib.hid hv
  clear hv
  by_cases hnn : n = n'
  rotate_left
  · have l1 : ((n : Int) == (n' : Int)) = false := by simp; omega
    have l2 : (n == n') = false := by simp; omega
    have l3 : ((n : Int) != (n' : Int)) = true := by simp; omega
    have l4 : (n != n') = true := by simp; omega
    have HE := Lib.hid (show decide (xs = ys) = false from decide_eq_false fun e => by have h1 := HL.out; have h2 := HL'.out; rw [e] at h1; omega)
    clear hnn
    go_enter Try.func26, Try.ntmps26
    go_wp2
    go_ret
    exact ⟨ret_bool (HE.out.symm.trans HV.out), rfl⟩
  subst hnn
  go_enter Try.func26, Try.ntmps26
  go_wp2
  go_loop [14] (fun i => ∃ k : Nat, k ≤ n ∧ i = .int .i64 k ∧ Hid (∀ j, j < k → xs[j]? = ys[j]?)) (fun i => n - (intOf i).toNat)
  case atStart =>
    have h0 : Hid (∀ j, j < 0 → xs[j]? = ys[j]?) := fun j hj => by omega
    exact ⟨0, Nat.zero_le _, rfl, h0⟩
  case round =>
    obtain ⟨k, hk, rfl, HA⟩ := hrel
    by_cases hlt : k < n
    · obtain ⟨b, o, z, rfl, hbl, hx, hc⟩ := h.at_ hlt
      obtain ⟨b', o', z', rfl, hbl', hx', hc'⟩ := h'.at_ hlt
      by_cases hz : z' = z
      · subst hz
        have HA2 : Hid (∀ j, j < k + 1 → xs[j]? = ys[j]?) := fun j hj => by
          by_cases he : j = k
          · subst he; rw [hx, hx']
          · exact HA.out j (by omega)
        clear hx hx'
        go_wp2
        go_round
        case rel => exact ⟨k + 1, by omega, by go_num, HA2⟩
        case measure => simp [intOf]; omega
      · have l1 : (z' == z) = false := by simp [hz]
        have l2 : (z' != z) = true := by simp [hz]
        have HE := Lib.hid (show decide (xs = ys) = false from decide_eq_false fun e => by rw [e, hx'] at hx; injection hx with hx; exact hz hx)
        clear hx hx' hz
        go_wp2
        go_ret
        exact ⟨ret_bool (HE.out.symm.trans HV.out), rfl⟩
    · obtain rfl : k = n := by omega
      have HE := Lib.hid (show decide (xs = ys) = true from decide_eq_true (List.ext_getElem? fun j => by
        by_cases hj : j < k
        · exact HA.out j hj
        · rw [List.getElem?_eq_none (by have := HL.out; omega), List.getElem?_eq_none (by have := HL'.out; omega)]))
      go_wp2
      go_ret
      exact ⟨ret_bool (HE.out.symm.trans HV.out), rfl⟩
set_option maxHeartbeats 4000000 in
theorem wnAtTimes_any {A B : Option Addr} {n c m d : Nat} {hs : List Duo} {ts : List Int} {w : World} (h : HasD w A n hs) (ht : Has w B m (ints .i64 ts)) (hn : n ≤ 60) (hnm : n ≤ m) :
    Calls Try.prog 28 #[.slice A n c, .slice B m d] w fun e w' => ∃ A' c', e = .returned (.slice A' n c') ∧ OwnD w' w.heap.size 29 A' n c' (atTo hs ts n) ∧ Below w.heap.size w w' := by
  obtain ⟨j0, hji, jz0, jz1, jz2⟩ := info_partsD Try.infoPulseD
  obtain ⟨W1, hW1⟩ : ∃ W1, w.alloc (.cells #[] 29) = W1 := ⟨_, rfl⟩
  have O1 : OwnD W1 w.heap.size 29 (some ⟨w.heap.size, 0, none⟩) 0 0 (atTo hs ts 0) := hW1 ▸ World.ownsRow_lit w #[] 0 (Nat.le_refl _) (by unfold maxLen; omega) rfl
  have B1 : Below w.heap.size w W1 := hW1 ▸ below_allocJ w _
  go_enter Try.func28, Try.ntmps28
  go_wp2
  go_loopw [5, 11] (fun v i wr => ∃ (k : Nat) (A' : Option Addr) (c' : Nat), k ≤ n ∧ i = .int .i64 (k : Int) ∧ v = .slice A' k c' ∧ OwnD wr w.heap.size 29 A' k c' (atTo hs ts k) ∧ Below w.heap.size w wr) (fun _ i _ => n - (intOf i).toNat)
  case atStart => exact ⟨0, _, 0, Nat.zero_le _, rfl, rfl, O1, B1⟩
  case round =>
    clear O1 B1 hW1
    obtain ⟨k, A2, c2, hk, rfl, rfl, O2, B2⟩ := hrel
    have hge := B2.size
    by_cases hlt : k < n
    · have hltB : decide ((k : Int) < (n : Int)) = true := by simp; omega
      obtain ⟨b0, o0, f, t, rfl, hbl, hx, c0, c1⟩ := (h.bel B2).at_ hlt
      obtain ⟨b1, o1, x, rfl, hbl1, hy, d0⟩ := (ht.bel B2).at_ (show k < m by omega)
      have k1 : (k : Int) < (m : Int) := by omega
      have k2 : k < m := by omega
      have HT := Lib.hid (show atTo hs ts (k + 1) = atTo hs ts k ++ [(x, t)] by
        rw [atTo_succ, List.getD_eq_getElem?_getD, hy, dj_atS hx]; rfl)
      obtain ⟨W5, hW5⟩ : ∃ W, wr.alloc (.cells #[.int .i64 f, .int .i64 t] 29) = W := ⟨_, rfl⟩
      have B5 : Below wr.heap.size wr W5 := hW5 ▸ below_allocJ wr _
      have R5 : W5.heap[wr.heap.size]? = some (.cells #[.int .i64 f, .int .i64 t] 29 (0, 0)) := hW5 ▸ heap_alloc_new wr _
      obtain ⟨r0, r1⟩ := cells2D R5
      have e0 : W5.cell? ⟨b1, o1 + k, none⟩ = some (.int .i64 x) := (B5.cell (p := ⟨b1, o1 + k, none⟩) hbl1).trans d0
      have s5 := B5.size
      have O5 : ((W5.alloc (.cells #[.int .i64 x, .int .i64 t] 29)).drew).ownsRow w.heap.size 29 2 (.slice A2 k c2) k (flatD (atTo hs ts k)) := World.ownsRow.drew (World.ownsRow.alloc (O2.bel B5) _)
      have N5 := Lib.hid (World.news_of_block (w := (W5.alloc (.cells #[Value.int .i64 x, Value.int .i64 t] 29)).drew) (B := W5.heap.size) (cs := #[Value.int .i64 x, Value.int .i64 t]) (t := 29) (fr := (0, 0)) (heap_alloc_new W5 _))
      have Z5 : w.heap.size ≤ ((W5.alloc (.cells #[.int .i64 x, .int .i64 t] 29)).drew).heap.size := by simp; omega
      have BD : Below w.heap.size w ((W5.alloc (.cells #[.int .i64 x, .int .i64 t] 29)).drew) := ((bel_trans B2 B5).trans ((below_allocJ W5 _).mono (by omega))).drew
      clear hx hy d0 O2 B2 B5 R5
      go_wp2
      go_region_law ((with_reducible refine step_append_lies _ rfl (.tmp 16) (.tmp 24) 23 rfl w.heap.size 29 j0 (.agg #[.int .i64 0, .int .i64 0]) 2 16 Try.underlying23 hji jz0 jz1 jz2 ?c1 ?c2 (.slice A2 k c2) k (flatD (atTo hs ts k)) rfl O5 ⟨W5.heap.size, 0, none⟩ 1 1 (#[Value.int .i64 x, Value.int .i64 t] : Array Value).toList rfl ?c3 N5.out ?c4 ?c5 ?c6 ?c7 Z5 _ rfl ?_); (case c1 => rfl); (case c2 => decide); (case c3 => rfl); (case c4 => simp [Value.oneCell']); (case c5 => decide); (case c6 => unfold maxLen; omega); (case c7 => omega); intro g cap w6 O6 G6 _ _)
      all_goals
        have O7 : OwnD w6 w.heap.size 29 (some ⟨g, 0, none⟩) (k + 1) cap (atTo hs ts (k + 1)) := by rw [HT.out]; unfold OwnD; rw [flatD_app]; exact O6
        have B7 := BD.trans (below_of_grown G6 Z5 (fun j hj => (World.ownsRow.lt O5 j hj).1))
        clear O6 G6
        go_wp2
        go_roundw
        case rel => exact ⟨k + 1, _, _, by omega, by go_num, rfl, O7, B7⟩
        case measure => simp [intOf]; omega
    · have hltB : decide ((k : Int) < (n : Int)) = false := by simp; omega
      obtain rfl : k = n := by omega
      go_wp2
      go_ret
      exact ⟨_, _, rfl, O2, B2⟩
end Go.Proofs.Ytnloejcfakcpfaa
