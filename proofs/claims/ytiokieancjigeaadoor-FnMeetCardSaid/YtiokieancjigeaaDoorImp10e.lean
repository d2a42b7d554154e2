/-
  Chapter 10's program, PortsOn and FloodVlan: what is proved here is what they return, in memory of their own, and that they write nothing that was there. Condition: lengths up to 2^24.
-/
import Derived.Test.YtiokieancjigeaaDoorImp10d
namespace Go.Proofs.YtiokieancjigeaaDoor
open Go.RowKit Go.Shelf

attribute [local go_sem] Oper.semAt_some

/-- The program's iterator, as it is made. -/
theorem portsOn_any {A : Option Addr} {n c : Nat} (v : Int) (w : World) :
    Calls Tryd.prog 32 #[.slice A n c, .int .i64 v] w fun e w' => e = .returned (.func (.func 46) #[] #[.pointer (some ⟨w.heap.size, 0, none⟩), .pointer (some ⟨w.heap.size + 1, 0, none⟩)]) ∧ w' = (w.alloc (.cells #[.slice A n c] 51)).alloc (.cells #[.int .i64 v] 3) := by
  go_enter Tryd.func32, Tryd.ntmps32
  go_wp2
  go_ret
  exact ⟨rfl, rfl⟩
theorem ports_stops (m : Nat) (hm : 1 ≤ m) {A : Option Addr} {n c B1 B2 n₁ Bo : Nat} {ps : List Port} {v : Int} {w : World} (hb1 : w.heap[B1]? = some (.cells #[.slice A n c] 51 (0, 0))) (hb2 : w.heap[B2]? = some (.cells #[.int .i64 v] 3 (0, 0)))
    (h : Has w A n (ps.map ifc)) (hok : psOk ps) (hB1 : B1 < n₁ ∧ B1 ≠ Bo) (hB2 : B2 < n₁ ∧ B2 ≠ Bo) (hlist : ∀ b o, A = some ⟨b, o, none⟩ → b < n₁ ∧ b ≠ Bo) (hn₁ : n₁ ≤ w.heap.size) :
    SeqStopsK Fence.wide m Tryd.prog 46 #[.pointer (some ⟨B1, 0, none⟩), .pointer (some ⟨B2, 0, none⟩)] encO (But n₁ Bo) (fun ys => ys = outsTo ps v n) (fun pre => pre <+: outsTo ps v n) n w := fun l J Jx W hW hJ _ hY h0 =>
  ports_any m hm l B1 B2 n c n₁ Bo A ps v w hb1 hb2 h hok hB1 hB2 hlist hn₁ J Jx W (But.of_below (hW.mono hn₁)) hJ hY h0
theorem row_mono {W : World} {lo lo' : Nat} {e : TypeId} {size : Nat} {v : Value} {k : Nat} {xs : List Value} (h : W.ownsRow lo e size v k xs) (hl : lo' ≤ lo) : W.ownsRow lo' e size v k xs := by
  refine ⟨h.1, ?_⟩
  rcases h.2 with h' | ⟨g, cap, cur, hv, hb, r⟩
  · exact .inl h'
  · exact .inr ⟨g, cap, cur, hv, by omega, r⟩
/-- A variable's box, and a value appended to the row that it holds. -/
theorem box_app10 {W w1 : World} {n₁ Bo sz : Nat} {v v' : Value} {k m : Nat} {xs ys : List Value} {tmp : Obj} {tb te : TypeId} (hne : tb ≠ te)
    (hv : Boxed W Bo tb v) (hrow : W.ownsRow n₁ te sz v k xs) (hn : n₁ ≤ W.heap.size)
    (hown' : w1.ownsRow n₁ te sz v' m ys) (hgrow : (W.alloc tmp).grownBy w1 v.ownBlock) :
    Boxed w1 Bo tb v ∧ Boxed (w1.setCell ⟨Bo, 0, none⟩ v') Bo tb v' ∧ (w1.setCell ⟨Bo, 0, none⟩ v').ownsRow n₁ te sz v' m ys ∧ KeepsOthers W (w1.setCell ⟨Bo, 0, none⟩ v') ∧ But n₁ Bo W (w1.setCell ⟨Bo, 0, none⟩ v') := by
  have hv1 : Boxed w1 Bo tb v := (hv.alloc tmp).kept hgrow (hv.not_row hne hrow)
  refine ⟨hv1, hv1.set v', hown'.kept (grownBy_setCell' w1 Bo v') (.inr (hv1.not_row hne hown').symm), ?_, ?_⟩
  · refine ((KeepsOthers.alloc W tmp).trans (KeepsOthers.of_grownBy hgrow fun j o ej hj => ?_)).trans (KeepsOthers.setCell _ _ _)
    rcases (hrow.alloc tmp).2 with ⟨rfl, _⟩ | ⟨g, cap, cur, rfl, _, hgb, _⟩
    · simp [Value.ownBlock] at ej
    · obtain rfl : g = j := by simpa [Value.ownBlock] using ej
      rw [hgb] at hj; cases hj; rfl
  · refine (But.of_below (((Below.refl n₁ W).alloc hn tmp).grown hgrow (by simp; omega) fun j ej => ?_)).setCell 0 v'
    rcases hrow.2 with ⟨rfl, _⟩ | ⟨g, cap, cur, rfl, hb, _, _⟩
    · simp [Value.ownBlock] at ej
    · obtain rfl : g = j := by simpa [Value.ownBlock] using ej
      exact hb
theorem slice_of_row {w : World} {lo sz k : Nat} {e : TypeId} {v : Value} {xs : List Value} (h : w.ownsRow lo e sz v k xs) : ∃ A n c, v = .slice A n c ∧ n = k := by
  rcases h.2 with ⟨rfl, h0⟩ | ⟨g, cap, cur, rfl, _⟩
  · exact ⟨none, 0, 0, rfl, h0.symm⟩
  · exact ⟨_, _, _, rfl, rfl⟩
theorem cell_two_new (W : World) (x y : Value) (t : TypeId) : ∀ j u, [x, y][j]? = some u → (W.alloc (.cells #[x, y] t)).cell? ((⟨W.heap.size, 0, none⟩ : Addr).add j) = some u := by
  intro j u h
  have hadd : (⟨W.heap.size, 0, none⟩ : Addr).add j = ⟨W.heap.size, j, none⟩ := by unfold Addr.add; split <;> simp_all
  rw [hadd, cell_of_row (W.alloc (.cells #[x, y] t)) W.heap.size j #[x, y] t (0, 0) (heap_alloc_new W _)]
  simpa using h
def fsts (xs : List (Int × Int)) : List Int := xs.map (·.1)
theorem fsts_snoc (xs : List (Int × Int)) (x : Int × Int) : fsts (xs ++ [x]) = fsts xs ++ [x.1] := by simp [fsts]
theorem fsts_len (xs : List (Int × Int)) : (fsts xs).length = xs.length := by simp [fsts]


set_option maxRecDepth 100000 in
set_option maxHeartbeats 8000000 in
theorem implFloodVlan_in {A : Option Addr} {n c : Nat} {ps : List Port} {a : Nat} {t : Int} {w : World} (h : HasP w A n ps) (hl : LenP ps) (hok : psOk ps) (ha : a < n) :
    CallsIn Fence.wide 5 Tryd.prog 11 #[.slice A n c, .int .i64 (a : Int), .int .i64 t] w fun e w' => ∃ u, e = .returned u ∧ w'.ownsRow w.heap.size 36 2 u (floodI ps (a : Int) t).length (flatO (floodI ps (a : Int) t)) ∧ Below w.heap.size w w' := by
  have h1 : 1 ≤ 5 := by decide
  obtain ⟨i0, hi, hz0, hz1, hz2⟩ := info_partsK Tryd.infoOut
  have HL := Lib.hid h.1
  have hpa := dp_some (ps := ps) (i := a) (by rw [h.1]; exact ha)
  have HE := Lib.hid (floodI_yes (t := t) hok hpa rfl)
  obtain ⟨V, hV⟩ : ∃ V, w.alloc (.cells #[.int .i64 (a : Int)] 3) = V := ⟨_, rfl⟩
  have BV : Below w.heap.size w V := by rw [← hV]; exact below_allocP w _
  have hVn : V.heap[w.heap.size]? = some (.cells #[.int .i64 (a : Int)] 3 (0, 0)) := by rw [← hV]; exact heap_alloc_new w _
  have v0 := cell1K hVn
  have C := Lib.hid (vlanBridgeOf_yes (c := c) (h.bel BV) hl hok)
  have C1 := Lib.hid (fun W => isPort_yes (a := (a : Int)) (b := (n : Int)) W ⟨by omega, by omega⟩)
  obtain ⟨v, hv⟩ : ∃ v, inI (dp ps a) t = v := ⟨_, rfl⟩
  have HI := Lib.hid (ifc_ins (dp_ok hok (show a < ps.length by rw [h.1]; exact ha)) t)
  rw [hv] at HE HI
  have j0 : (0 : Int) ≤ (a : Int) := by omega
  have j1 : (a : Int) < (n : Int) := by omega
  refine callsIn_of_wp_marks Tryd.func11 rfl trivial ?_ rfl
  simp only [Tryd.ntmps11, List.size_toArray, List.length_cons, List.length_nil, Nat.reduceAdd, Nat.reduceSub, Array.replicate_succ, Array.replicate_zero, List.push_toArray, List.append_toArray, List.nil_append, List.cons_append]
  gi_wp2_with (fail)
  refine ⟨trivial, ?_⟩
  refine (callsIn_wide.2 C.out).mono ?_
  rintro e w1 ⟨rfl, O1, B1⟩
  have s1 := B1.size
  have sV := BV.size
  have hO1 := O1.block
  have hV1 := heap_belP B1 hVn
  have v1 := cell1K hV1
  gi_wp2_with (fail)
  refine ⟨trivial, ?_⟩
  refine (callsIn_wide.2 (C1.out _)).mono ?_
  rintro e w' ⟨rfl, rfl⟩
  obtain ⟨W1, hW1⟩ : ∃ W1, w1.alloc (.cells #[.slice none 0 0] 33) = W1 := ⟨_, rfl⟩
  have sW1 : W1.heap.size = w1.heap.size + 1 := by rw [← hW1]; simp
  have BW1 : Below w1.heap.size w1 W1 := by rw [← hW1]; exact below_allocP w1 _
  have bO1 : Boxed W1 w1.heap.size 33 (.slice none 0 0) := by rw [← hW1]; exact Boxed.new w1 _ _
  have hV2 := heap_belP BW1 hV1
  have v2 := cell1K hV2
  have O2 := O1.bel BW1
  obtain ⟨u0, hu0, e0, f0⟩ := O2.at_ (k := a) ha
  have hpk : (ps.map ifc)[a]? = some (ifc (dp ps a)) := by rw [List.getElem?_map, hpa]; rfl
  rw [hpk] at hu0
  injection hu0 with hu0
  subst hu0
  clear v0 v1
  rcases HI.out with ⟨q, s, e1, hM, hC⟩ | ⟨q, e1, hM, hC⟩
  all_goals
    rw [e1] at e0
    have CI := Lib.hid (hC W1)
    clear e1 hC
    gi_wp2_with (fail)
    refine ⟨trivial, ?_⟩
    refine (callsIn_wide.2 CI.out).mono ?_
    rintro e w2 ⟨rfl, B2⟩
    have s2 := B2.size
    have bO2 := bO1.kept (grown_of_below B2) (by simp)
    have O3 := O2.bel B2
    have hV3 := heap_belP B2 hV2
    gi_wp2_with (fail)
    refine ⟨trivial, ?_⟩
    refine (callsIn_wide.2 (portsOn_any v _)).mono ?_
    rintro e w' ⟨rfl, rfl⟩
    dsimp only
    first | generalize (Value.iface 89 (Value.agg #[Value.int IntKind.i64 q, Value.int IntKind.u64 s])) = IF at * | generalize (Value.iface 87 (Value.agg #[Value.int IntKind.i64 q])) = IF at *
    obtain ⟨W0, hW0⟩ : ∃ W0, (w2.alloc (.cells #[.slice (some ⟨V.heap.size, 0, none⟩) n n] 51)).alloc (.cells #[.int .i64 v] 3) = W0 := ⟨_, rfl⟩
    have s0 : W0.heap.size = w2.heap.size + 2 := by rw [← hW0]; simp
    have hB01 : Below w2.heap.size w2 W0 := by rw [← hW0]; exact ((Below.refl _ _).alloc (Nat.le_refl _) _).alloc (by simp) _
    have bO : Boxed W0 w1.heap.size 33 (.slice none 0 0) := bO2.kept (grown_of_below hB01) (by simp)
    have bL : W0.heap[w2.heap.size]? = some (.cells #[.slice (some ⟨V.heap.size, 0, none⟩) n n] 51 (0, 0)) := by
      rw [← hW0, heap_alloc_old _ _ (by simp)]
      exact heap_alloc_new w2 _
    have bV : W0.heap[w2.heap.size + 1]? = some (.cells #[.int .i64 v] 3 (0, 0)) := by
      rw [← hW0]
      have := heap_alloc_new (w2.alloc (.cells #[.slice (some ⟨V.heap.size, 0, none⟩) n n] 51)) (.cells #[.int .i64 v] 3)
      rw [World.size_alloc] at this; exact this
    have hB0 : Below w.heap.size w W0 := bel_trans BV (bel_trans B1 (bel_trans BW1 (bel_trans B2 hB01)))
    have hw0 := (O3.bel hB01).has
    have hV4 := heap_belP hB01 hV3
    have hlist : ∀ b o, (some ⟨V.heap.size, 0, none⟩ : Option Addr) = some ⟨b, o, none⟩ → b < W0.heap.size ∧ b ≠ w1.heap.size := fun b o hA => by
      injection hA with hA
      injection hA with e1
      have hO2 : V.heap.size < w1.heap.size := hO1.2
      omega
    have hat : w.heap.size < w1.heap.size := by have : w.heap.size < V.heap.size := (Array.getElem?_eq_some_iff.1 hVn).1; omega
    rw [hW0]
    gi_wp2_with (fail)
    refine wpIn_rangeFunc_ownG rfl h1 (gf := 46) (lb := #[.pointer (some ⟨w2.heap.size, 0, none⟩), .pointer (some ⟨w2.heap.size + 1, 0, none⟩)]) rfl trivial (enters_of Tryd.func46 (by kernel_rfl) rfl) (ports_stops (5 - 1) (by decide) (Bo := w1.heap.size) bL bV hw0 hok ⟨by omega, by omega⟩ ⟨by omega, by omega⟩ hlist (Nat.le_refl _)) But.trans (but_b (Nat.le_refl _)) (Below.refl _ _) (fun _ => rfl)
      (fun pre W => (∃ u, Boxed W w1.heap.size 33 u ∧ W.ownsRow W0.heap.size 36 2 u (notAt (a : Int) pre).length (flatO (notAt (a : Int) pre)) ∧ True) ∧ But W0.heap.size w1.heap.size W0 W)
      (fun _ _ _ => False)
      (OwnFrom.and (Go.Own.from (holdsRow_own W0.heap.size w1.heap.size 33 36 2 (fun pre : List (Int × Int) => (notAt (a : Int) pre).length) (fun pre => flatO (notAt (a : Int) pre)) (fun _ _ => True)) _) (ownFrom_but (Nat.le_refl _) (Nat.le_refl _)))
      (fun _ _ _ _ _ hs _ _ => hs)
      ⟨⟨_, bO, World.ownsRow_nil _ _ _ _, trivial⟩, But.refl _ _ _⟩
      (fun x => { tmps := #[.slice A n c, .int .i64 (a : Int), .int .i64 t, undef, .pointer (some ⟨w.heap.size, 0, none⟩), undef, .slice none 0 0, .slice (some ⟨V.heap.size, 0, none⟩) n n, .bool true, .pointer (some ⟨w1.heap.size, 0, none⟩), .int .i64 x.1, .int .i64 x.2, .tuple #[.slice (some ⟨V.heap.size, 0, none⟩) n n, .bool true], .slice A n c, .tuple #[.slice (some ⟨V.heap.size, 0, none⟩) n n, .bool true], .slice (some ⟨V.heap.size, 0, none⟩) n n, .bool true, .bool true, .bool false, .bool false, .int .i64 (a : Int), .slice (some ⟨V.heap.size, 0, none⟩) n n, .int .i64 (n : Int), .bool true, .bool false, .bool false, .slice (some ⟨V.heap.size, 0, none⟩) n n, .slice (some ⟨V.heap.size, 0, none⟩) n n, .int .i64 (a : Int), .pointer (some ⟨V.heap.size, a, none⟩), IF, .int .i64 t, .int .i64 v, .func (.func 46) #[] #[.pointer (some ⟨w2.heap.size, 0, none⟩), .pointer (some ⟨w2.heap.size + 1, 0, none⟩)], .int .i64 x.1, .int .i64 x.2, undef, undef, undef, undef, undef, undef, undef, undef, undef, undef], defers := [] }) ?assign ?body ?done ?stop
    case assign =>
      intro l x W K hK
      dsimp only [encO]
      gi_wp2
      exact hK
    case body =>
      rintro l pre x W ⟨⟨u, hv, hrow, _⟩, hB⟩ hlt
      have hc := hv.cell
      have hsz := hB.size
      have hn6 : n ≤ 6 := by have h1 := hok.2.2; have h2 := HL.out; omega
      have hl8 : (notAt (a : Int) pre).length ≤ 16777216 := by have := notAt_len (a : Int) pre; omega
      have hcat := (hB.cell (p := ⟨w.heap.size, 0, none⟩) (by show w.heap.size < _; omega) (by show w.heap.size ≠ _; omega)).trans (cell1K hV4)
      by_cases hx : x.1 = (a : Int)
      · have xB : (x.1 != (a : Int)) = false := by simp [hx]
        have HN := Lib.hid (show notAt (a : Int) (pre ++ [x]) = notAt (a : Int) pre by unfold notAt; rw [List.filter_append]; simp [hx])
        clear hlt hn6 hx
        gi_wp2
        exact ⟨(KeepsOthers.refl W).from _, But.refl _ _ _, ⟨_, hv, by rw [HN.out]; exact hrow, trivial⟩, hB⟩
      · have xB : (x.1 != (a : Int)) = true := by simp [hx]
        have HN := Lib.hid (show notAt (a : Int) (pre ++ [x]) = notAt (a : Int) pre ++ [x] by unfold notAt; rw [List.filter_append]; simp [hx])
        clear hlt hn6 hx
        gi_wp2_with (gi_at_builtin; refine wpListIn_append_own _ rfl _ _ 33 rfl W0.heap.size 36 i0 (.agg #[.int .i64 0, .int .i64 0]) 2 16 Tryd.underlying33 hi hz0 hz1 hz2 rfl (by decide) _ _ _ rfl (hrow.alloc _) ⟨W.heap.size, 0, none⟩ 1 1 [.int .i64 x.1, .int .i64 x.2] rfl rfl (cell_two_new _ _ _ _) (by simp [Value.oneCell']) (by unfold maxLen; omega) (by omega) (by simp; omega) ?_; intro v' w3 hown' hgrow _; obtain ⟨g', cap', rfl⟩ := ownsRow_succ hown'; obtain ⟨hv1, hv2, hr2, hk2, hb2⟩ := box_app10 (by decide) hv hrow hsz hown' hgrow; have hc1 := hv1.cell; have hf1 := hv1.frozen)
        exact ⟨hk2.from _, hb2, ⟨_, hv2, by rw [HN.out, List.length_append, flatO_app]; exact hr2, trivial⟩, hB.trans hb2⟩
    case done =>
      rintro D ys W hD hS ⟨⟨u, hv, hrow, _⟩, hB⟩ hK
      have hc := hv.cell
      gi_wp2
      refine ⟨by simp, .inl ⟨_, _, rfl, run_takeDeferred hK, ?_⟩⟩
      refine ⟨_, results_tmp rfl _ _ _, u, rfl, ?_, ?_⟩
      · rw [HE.out, HL.out, ← hS]
        exact ownsRow_putObj (row_mono hrow (by omega)) _ hK rfl
      · exact hB0.trans ((hB.below (by omega) (by omega)).trans (belowK_b (w := W0) (by omega) W D _ _ hD hK rfl rfl))
    case stop =>
      rintro D c pre W _ _ h _
      exact h.elim
theorem implFloodVlan_r {A : Option Addr} {n c : Nat} {ps : List Port} {a t : Int} {w : World} {r : List (Int × Int)} (h : HasP w A n ps) (hn : n ≤ 16777216) (hl : LenP ps) (hr : floodI ps a t = r) :
    Calls Tryd.prog 11 #[.slice A n c, .int .i64 a, .int .i64 t] w fun e w' => ∃ A' n' c', e = .returned (.slice A' n' c') ∧ OwnO w' w.heap.size A' n' c' r ∧ Below w.heap.size w w' := by
  by_cases hok : psOk ps
  · by_cases ha : 0 ≤ a ∧ a < (n : Int)
    · obtain ⟨a', rfl⟩ := Int.eq_ofNat_of_zero_le ha.1
      subst hr
      refine (callsIn_wide.1 (implFloodVlan_in (c := c) (t := t) h hl hok (show a' < n by omega))).mono fun e w' ⟨u, he, hrow, hB⟩ => ?_
      obtain ⟨A', n', c', rfl, rfl⟩ := slice_of_row hrow
      exact ⟨_, _, _, he, hrow, hB⟩
    · have HE := Lib.hid (floodI_no (ps := ps) (a := a) (t := t) (fun hh => ha (by have h1 := hh.2; have h2 := h.1; omega)))
      have HR := Lib.hid hr
      obtain ⟨V, hV⟩ : ∃ V, w.alloc (.cells #[.int .i64 a] 3) = V := ⟨_, rfl⟩
      have BV : Below w.heap.size w V := by rw [← hV]; exact below_allocP w _
      have hVn : V.heap[w.heap.size]? = some (.cells #[.int .i64 a] 3 (0, 0)) := by rw [← hV]; exact heap_alloc_new w _
      have C := Lib.hid (vlanBridgeOf_yes (c := c) (h.bel BV) hl hok)
      have C1 := Lib.hid (fun W => isPort_no (a := a) (b := (n : Int)) W ha)
      clear hok hr ha
      go_enter Tryd.func11, Tryd.ntmps11
      go_wp2_with (fail)
      refine C.out.mono ?_
      rintro e w1 ⟨rfl, _, B1⟩
      have v1 := cell1K (heap_belP B1 hVn)
      go_wp2_with (fail)
      refine (C1.out _).mono ?_
      rintro e w' ⟨rfl, rfl⟩
      go_wp2
      go_ret
      exact ⟨_, _, _, rfl, by rw [← HR.out, HE.out]; exact World.ownsRow_nil _ _ _ _, bel_trans BV B1⟩
  · have HE := Lib.hid (floodI_no (ps := ps) (a := a) (t := t) (fun hh => hok hh.1))
    have HR := Lib.hid hr
    obtain ⟨V, hV⟩ : ∃ V, w.alloc (.cells #[.int .i64 a] 3) = V := ⟨_, rfl⟩
    have BV : Below w.heap.size w V := by rw [← hV]; exact below_allocP w _
    have C := Lib.hid (vlanBridgeOf_no (c := c) (h.bel BV) hn hl hok)
    clear hok hr
    go_enter Tryd.func11, Tryd.ntmps11
    go_wp2_with (fail)
    refine C.out.mono ?_
    rintro e w1 ⟨rfl, B1⟩
    go_wp2
    go_ret
    exact ⟨_, _, _, rfl, by rw [← HR.out, HE.out]; exact World.ownsRow_nil _ _ _ _, bel_trans BV B1⟩
end Go.Proofs.YtiokieancjigeaaDoor
