/-
  Chapter 7's program, the least costs: what is proved here is that a heap of times gives them, and that nothing that was there is written. Condition: cables as they may be.
-/
import Derived.Test.YtkmdpmhaljieaaaHeapX
import Derived.Test.YtkmdpmhaljieaaaImp7c
import Derived.Test.YtkmdpmhaljieaaaImp7r
namespace Go.Proofs.Ytkmdpmhaljieaaa
open Go.RowKit

theorem flX_new (w : World) {X : Nat} (hX : X < w.heap.size) : FlX X (w.alloc (.cells #[.slice none 0 0] 91)) w.heap.size w.heap.size [] :=
  ⟨⟨Nat.le_refl _, by omega⟩, none, 0, 0, Boxed.new w _ _, World.ownsRow_nil _ _ _ _, (fun a ha => by cases ha), by simp; omega⟩
theorem Own.frX {X : Nat} {w w' : World} {lo lo' n c : Nat} {A : Option Addr} {xs : List Value} (h : Own w lo 3 A n c xs) (hf : FrX X lo' w w') : Own w' lo 3 A n c xs := by
  refine ⟨h.1, ?_⟩
  rcases h.2 with hn | ⟨g, cap, cur, hv, hb, hgg, rest⟩
  · exact .inl hn
  · exact .inr ⟨g, cap, cur, hv, hb, (hf.block g (Array.getElem?_eq_some_iff.1 hgg).1 (.inr (.inr ⟨cur, _, _, hgg, by decide, by decide⟩))).trans hgg, rest⟩
theorem FlX.grown {X : Nat} {w w' : World} {lo lo' p n c : Nat} {A : Option Addr} {xs : List Value} {ds : List (Int × Int)} (h : FlX X w lo p ds) (hO : Own w lo' 3 A n c xs) (hg : w.grownBy w' (A.map (·.block))) : FlX X w' lo p ds := by
  obtain ⟨hp, B, m, d, h1, h2⟩ := h
  have hA : (Value.slice A n c).ownBlock = A.map (·.block) := by cases A <;> rfl
  have e1 := h1.not_row (by decide) hO
  rw [hA] at e1
  refine ⟨hp, B, m, d, h1.kept hg e1, World.ownsRow.kept h2.1 hg ?_, h2.2.1, Nat.lt_of_lt_of_le h2.2.2 hg.size⟩
  rw [← hA]
  cases hb : (Value.slice B m d).ownBlock with
  | none => exact .inl rfl
  | some b =>
    refine .inr (fun e => ?_)
    cases hc : (Value.slice A n c).ownBlock with
    | none => rw [hc] at e; cases e
    | some a =>
      rw [hc] at e
      injection e with e
      subst e
      have t1 : ∃ cur fz, w.heap[b]? = some (.cells cur 95 fz) := by
        rcases h2.1.2 with ⟨hv, _⟩ | ⟨g, cap, cur, hv, _, hgg, _⟩
        · cases hv; cases hb
        · cases hv
          have : g = b := by simpa [Value.ownBlock] using hb
          subst this
          exact ⟨cur, _, hgg⟩
      have t2 : ∃ cur fz, w.heap[b]? = some (.cells cur 3 fz) := by
        rcases hO.2 with ⟨hv, _⟩ | ⟨g, cap, cur, hv, _, hgg, _⟩
        · cases hv; cases hc
        · cases hv
          have : g = b := by simpa [Value.ownBlock] using hc
          subst this
          exact ⟨cur, _, hgg⟩
      obtain ⟨c1, f1, e1⟩ := t1
      obtain ⟨c2, f2, e2⟩ := t2
      rw [e1] at e2
      injection e2 with e2
      injection e2 with _ e2
      exact absurd e2 (by decide)
theorem FlX.low {X Y : Nat} {w : World} {lo p : Nat} {ds : List (Int × Int)} (h : FlX X w lo p ds) (hY : Y < lo) : FlX Y w lo p ds := by
  obtain ⟨hp, A, n, c, b1, b2⟩ := h
  have hl := b1.lt
  refine ⟨⟨hp.1, by have := hp.1; omega⟩, A, n, c, b1, b2.1, fun a ha e => ?_, by have := hp.1; omega⟩
  subst ha
  have := World.ownsRow.lt b2.1 a.block rfl
  omega
theorem heapN_nil : HeapN [] ([] : List (Int × Int)).length := fun c h1 h2 => by simp at h2
/-- What a heap's variable holds, and what a slice of ints reads as: for measures. -/
def fLen (w : World) (p : Nat) : Nat := match w.cell? ⟨p, 0, none⟩ with | some (.slice _ n _) => n | _ => 0
def colOf (w : World) (g m : Nat) : List Int := (List.range m).map fun v => match w.cell? ⟨g, v, none⟩ with | some (.int _ z) => z | _ => 0
theorem FlX.fLen {X : Nat} {w : World} {lo p : Nat} {ds : List (Int × Int)} (h : FlX X w lo p ds) : fLen w p = ds.length := by
  obtain ⟨_, A, n, c, b1, b2⟩ := h
  unfold Go.Proofs.Ytkmdpmhaljieaaa.fLen
  rw [b1.cell]
  exact b2.1.len.symm
theorem own_colOf {w : World} {lo g m c : Nat} {e : TypeId} {col : List Int} (h : Own w lo e (some ⟨g, 0, none⟩) m c (ints .i64 col)) : colOf w g m = col := by
  have hl := h.has.len
  unfold colOf
  apply List.ext_getElem?
  intro i
  by_cases hi : i < m
  · obtain ⟨b, o, z, hA, _, hx, hc⟩ := h.has.at_ hi
    injection hA with hA
    injection hA with q1 q2
    subst q1 q2
    rw [Nat.zero_add] at hc
    simp [hi, hc, hx]
  · rw [List.getElem?_eq_none (by simp; omega), List.getElem?_eq_none (by omega)]
theorem own_gi {w : World} {lo n c g : Nat} {e : TypeId} {l : List Int} (h : Own w lo e (some ⟨g, 0, none⟩) n c (ints .i64 l)) {i : Nat} (hi : i < n) : w.cell? ⟨g, i, none⟩ = some (.int .i64 (gi l i)) ∧ w.frozen? ⟨g, i, none⟩ = false := by
  obtain ⟨u, hu, hc, hf⟩ := h.at_ hi
  refine ⟨hc.trans ?_, hf⟩
  have hl := h.has.len
  rw [← hu, ints_at _ _ _ (by omega)]
  rfl

theorem cells2K {w : World} {B : Nat} {x y : Value} {t : TypeId} (h : w.heap[B]? = some (.cells #[x, y] t (0, 0))) : w.cell? ⟨B, 0, none⟩ = some x ∧ w.cell? ⟨B, 1, none⟩ = some y :=
  ⟨(cell_of_row w B 0 _ t (0, 0) h).trans rfl, (cell_of_row w B 1 _ t (0, 0) h).trans rfl⟩
set_option maxRecDepth 100000 in
set_option maxHeartbeats 16000000 in
theorem leastCosts_any {A B : Option Addr} {ca cb m n : Nat} {cs : List Cab} {w : World} (hE : HasE w A m (endsN m cs)) (hR : Has w B m (cI (rootsN m cs))) (hc : cabsOk m cs) (h1 : 1 ≤ m) (h8 : m ≤ 8) (hn : cs.length = n) (hn20 : n ≤ 20) :
    Calls Try.prog 64 #[.slice A m ca, .slice B m cb] w fun e w' => ∃ A' c', e = .returned (.slice A' m c') ∧ Own w' w.heap.size 3 A' m c' (cI (costsN m cs)) ∧ Below w.heap.size w w' := by
  have HC := Lib.hid hc
  have hcell := (cell_of_row (w.alloc (.cells #[.int .i64 (-1)] 3)) w.heap.size 0 _ 3 (0, 0) (heap_alloc_new w (.cells #[.int .i64 (-1)] 3))).trans (show _ = some (Value.int .i64 (-1)) from rfl)
  have B0 : Below w.heap.size w (w.alloc (.cells #[.int .i64 (-1)] 3)) := (Below.refl _ _).alloc (Nat.le_refl _) _
  have s0 : w.heap.size < (w.alloc (.cells #[.int .i64 (-1)] 3)).heap.size := by simp
  have CR := Lib.hid (repeat_any hcell h1 h8)
  have HL := Lib.hid hn
  generalize hW0 : w.alloc (.cells #[.int .i64 (-1)] 3) = w0 at hcell B0 s0 CR
  clear hc hcell hn
  go_enter Try.func64, Try.ntmps64
  go_wp2_with (fail)
  refine CR.out.mono ?_
  rintro e w1 ⟨A1, c1, rfl, O1, B1⟩
  have s1 := B1.size
  obtain ⟨g1, rfl, hg10, hg11⟩ := O1.head (by omega)
  have F2 := flX_new w1 (X := w.heap.size) (by omega)
  have BL := (Below.refl w1.heap.size w1).alloc (Nat.le_refl _) (.cells #[.slice none 0 0] 91)
  have O2 := O1.bel BL
  have B2 := (B0.trans (B1.mono (by omega))).trans (BL.mono (by omega))
  have sL : w1.heap.size < (w1.alloc (.cells #[.slice none 0 0] 91)).heap.size := by simp
  have hwp : w.heap.size < w1.heap.size := by omega
  generalize hp : w1.heap.size = p at *
  have hg1p : g1 < p := hg11
  generalize hW2 : w1.alloc (.cells #[.slice none 0 0] 91) = w2 at *
  have HB2 := Lib.hid B2
  have HO2 := Lib.hid O2
  have HF2 := Lib.hid F2
  clear O1 B1 BL F2 O2 B2
  go_wp2
  go_loopw [18] (fun t wr => ∃ (k : Nat) (ds : List (Int × Int)), k ≤ m ∧ t = .int .i64 (k : Int) ∧ Hid (Own wr w0.heap.size 3 (some ⟨g1, 0, none⟩) m c1 (ints .i64 (List.replicate m (-1)))) ∧ Hid (FlX w.heap.size wr p p ds) ∧ Hid (ds.Perm (rootsTo m cs k)) ∧ Hid (HeapN ds ds.length) ∧ Hid (Below w.heap.size w wr) ∧ p ≤ wr.heap.size) (fun t _ => m - (intOf t).toNat)
  case atStart => exact ⟨0, [], Nat.zero_le _, rfl, HO2, HF2, Lib.hid (List.Perm.refl _), Lib.hid heapN_nil, HB2, Nat.le_of_lt sL⟩
  case round =>
    obtain ⟨k, ds, hk, rfl, HO, HF, HP, HN, HB, hps⟩ := hrel
    by_cases hlt : k < m
    · have hltB : decide ((k : Int) < (m : Int)) = true := by simp; omega
      obtain ⟨bb, o, rfl, hbl, cb⟩ := has_cI (hR.bel HB.out) hlt
      rw [rootsN_at hlt] at cb
      have hlen : ds.length ≤ 8 := by have h2 := HP.out.length_eq; have h3 := rootsTo_len m cs k; omega
      by_cases hr : rootN m cs k = k
      · have HS := Lib.hid (show rootsTo m cs (k + 1) = rootsTo m cs k ++ [((0 : Int), (k : Int))] by rw [rootsTo, if_pos hr])
        rw [hr] at cb
        have hkB : ((k : Int) == (k : Int)) = true := by simp
        clear hr
        go_wp2_with (fail)
        refine (heapPush_x HF.out hps (by omega) HN.out).mono ?_
        rintro e w3 ⟨rfl, ⟨es3, F3, P3, N3⟩, R3⟩
        have P4 := P3.trans (List.Perm.append_right [((0 : Int), (k : Int))] HP.out)
        rw [← HS.out] at P4
        have HP4 := Lib.hid P4
        have HF4 := Lib.hid F3
        have HN4 := Lib.hid N3
        have HO4 := Lib.hid (HO.out.frX R3)
        have HB4 := Lib.hid (HB.out.trans ((R3.below hps).mono (Nat.le_of_lt hwp)))
        have hps4 := Nat.le_trans hps R3.size
        clear P3 P4 F3 N3 R3 cb
        go_wp2
        go_roundw
        case rel => exact ⟨k + 1, es3, by omega, by go_num, HO4, HF4, HP4, HN4, HB4, hps4⟩
        case measure => simp [intOf]; omega
      · have HS := Lib.hid (show rootsTo m cs (k + 1) = rootsTo m cs k by rw [rootsTo, if_neg hr, List.append_nil])
        have hkB : ((k : Int) == (rootN m cs k : Int)) = false := by simp; omega
        have HP4 : Hid (ds.Perm (rootsTo m cs (k + 1))) := by rw [HS.out]; exact HP
        generalize rootN m cs k = rt at *
        clear hr
        go_wp2
        go_roundw
        case rel => exact ⟨k + 1, ds, by omega, by go_num, HO, HF, HP4, HN, HB, hps⟩
        case measure => simp [intOf]; omega
    · have hltB : decide ((k : Int) < (m : Int)) = false := by simp; omega
      obtain rfl : k = m := by omega
      have HD := Lib.hid ((dj_start HC.out).perm HP.out)
      have HLE := Lib.hid (show ds.length + leftN cs (List.replicate k (-1)) k ≤ 400 by
        have h2 := HP.out.length_eq
        have h3 := rootsTo_len k cs k
        have h4 := left_le cs (List.replicate k (-1)) k
        have h5 : k * cs.length ≤ 8 * 20 := Nat.mul_le_mul h8 (by have := HL.out; omega)
        omega)
      clear HP
      go_wp2
      go_loopw [9] (fun _ wx => ∃ (col : List Int) (ds : List (Int × Int)), Hid (Own wx w0.heap.size 3 (some ⟨g1, 0, none⟩) k c1 (ints .i64 col)) ∧ Hid (FlX w.heap.size wx p p ds) ∧ Hid (Dj k cs col ds) ∧ Hid (HeapN ds ds.length) ∧ Hid (ds.length + leftN cs col k ≤ 400) ∧ Hid (Below w.heap.size w wx) ∧ p ≤ wx.heap.size) (fun _ wx => fLen wx p + leftN cs (colOf wx g1 k) k)
      case atStart => exact ⟨_, ds, HO, HF, HD, HN, HLE, HB, hps⟩
      case round =>
        obtain ⟨col, ds, HO, HF, HD, HN, HLE, HB, hps⟩ := hrel
        have hmeas : fLen wr p + leftN cs (colOf wr g1 k) k = ds.length + leftN cs col k := by rw [HF.out.fLen, own_colOf HO.out]
        have HME := Lib.hid hmeas
        clear hmeas
        obtain ⟨_, A6, l6, d6, b6, P6⟩ := HF.out
        have hl6 := P6.1.len
        have hcell6 := b6.cell
        by_cases hz : l6 = 0
        · have hzB : decide ((l6 : Int) > 0) = false := by simp; omega
          have hzC : decide (0 < (l6 : Int)) = false := by simp; omega
          have he : ds = [] := List.length_eq_zero_iff.1 (by omega)
          subst he
          have hfin := HD.out.done HC.out h8
          have HO9 : Hid (Own wr w0.heap.size 3 (some ⟨g1, 0, none⟩) k c1 (cI (costsN k cs))) := by rw [hfin] at HO; exact HO
          clear hfin b6 P6
          go_wp2_with (fail)
          refine (flightLen_any _ _ _ _).mono ?_
          rintro e w3 ⟨rfl, rfl⟩
          go_wp2
          go_ret
          exact ⟨_, _, rfl, HO9.out.mono (by omega), HB.out⟩
        · have hzB : decide ((l6 : Int) > 0) = true := by simp; omega
          have hzC : decide (0 < (l6 : Int)) = true := by simp; omega
          obtain ⟨r, hr⟩ : ∃ r, l6 = r + 1 := ⟨l6 - 1, by omega⟩
          have hes : ds.length = r + 1 := by omega
          have hmin : ∀ b ∈ ds, ¬ ltP b (atP ds 0) := fun b hb => by
            obtain ⟨c0, h1, rfl⟩ := mem_atP hb
            exact root_min HN.out c0 h1
          have HN2 : Hid (HeapN ds (r + 1)) := by rw [← hes]; exact HN
          have hr2 : r < 1000000 := by have := HLE.out; omega
          have hmem : atP ds 0 ∈ ds := by
            unfold atP
            rw [List.getD_eq_getElem?_getD, List.getElem?_eq_getElem (show 0 < ds.length by omega)]
            exact List.getElem_mem _
          obtain ⟨tm, v, hx0, hvm, hdt, htb⟩ := HD.out.2.2.1 _ hmem
          have HMIN : Hid (∀ x ∈ ds, (tm : Int) ≤ x.1) := fun x hx => by
            have h2 := hmin x hx
            rw [hx0] at h2
            unfold ltP at h2
            omega
          have HPOP := Lib.hid (heapPop_x HF.out hes hr2 HN2.out)
          rw [hx0] at HPOP
          have HHL := Lib.hid hes
          have ta := run_assert_arrival (tm : Int) (v : Int)
          clear hr hmin hmem b6 P6 hx0 hes
          go_wp2_with (fail)
          refine (flightLen_any _ _ _ _).mono ?_
          rintro e w3 ⟨rfl, rfl⟩
          go_wp2_with (fail)
          refine HPOP.out.mono ?_
          rintro e w4 ⟨rfl, ⟨ds4, F4, P4, N4⟩, R4⟩
          have HP4 := Lib.hid P4
          have HN4 := Lib.hid N4
          have O4 := HO.out.frX R4
          have B4 := HB.out.trans ((R4.below hps).mono (Nat.le_of_lt hwp))
          have hps4 := Nat.le_trans hps R4.size
          clear HPOP R4 P4 N4
          have hA5 := heap_alloc_new w4 (.cells #[.int .i64 (tm : Int), .int .i64 (v : Int)] 95)
          have hZ5 := heap_alloc_new w4 (.cells #[.int .i64 0, .int .i64 0] 95)
          obtain ⟨y0, y1⟩ := cells2K hZ5
          have BA := (Below.refl w4.heap.size w4).alloc (Nat.le_refl _) (.cells #[.int .i64 (tm : Int), .int .i64 (v : Int)] 95)
          have sA : w4.heap.size < (w4.alloc (.cells #[.int .i64 (tm : Int), .int .i64 (v : Int)] 95)).heap.size := by simp
          generalize hW5 : w4.alloc (.cells #[.int .i64 (tm : Int), .int .i64 (v : Int)] 95) = w5 at hA5 BA sA
          obtain ⟨x0, x1⟩ := cells2K hA5
          have O5 := O4.bel BA
          have F5 := F4.bel BA
          have B5 := B4.trans (BA.mono (by omega))
          obtain ⟨z0, f0⟩ := own_gi O5 hvm
          by_cases hun : gi col v = -1
          · have hunB : (gi col v != -1) = false := by simp [hun]
            have hDn := (HD.out.take HC.out h8 HP4.out HMIN.out hun).2.2
            have HDN := Lib.hid hDn
            have hcl : v < col.length := by rw [HD.out.1]; exact hvm
            have HLS := Lib.hid (left_set cs col v tm hcl hun k hvm)
            have O6 := O5.set_ v (.int .i64 (tm : Int))
            rw [ints_set] at O6
            have G6 := one_grownK w5 g1 v (.int .i64 (tm : Int))
            have F6 := (F4.turn BA (Nat.le_refl _) sA).grown O5 G6
            have B6 := B5.setCell (p := ⟨g1, v, none⟩) (show w.heap.size ≤ g1 by omega) (.int .i64 (tm : Int))
            have hA6 : (w5.setCell ⟨g1, v, none⟩ (.int .i64 (tm : Int))).heap[w4.heap.size]? = some (.cells #[.int .i64 (tm : Int), .int .i64 (v : Int)] 95 (0, 0)) := (Below.heap_setCell w5 ⟨g1, v, none⟩ _ w4.heap.size (fun e => by have e' : w4.heap.size = g1 := e; omega)).trans hA5
            have s6 : w4.heap.size < (w5.setCell ⟨g1, v, none⟩ (.int .i64 (tm : Int))).heap.size := by simpa [World.setCell] using sA
            generalize hW6 : w5.setCell ⟨g1, v, none⟩ (.int .i64 (tm : Int)) = w6 at O6 G6 F6 B6 hA6 s6
            obtain ⟨x2, x3⟩ := cells2K hA6
            obtain ⟨be, oe, BE, qe, de, zs, rfl, hzs, hcw, hKe⟩ := hE.2 v hvm
            have hce := (B6.cell (p := ⟨be, oe + v, none⟩) (World.block_lt_of_cell? w _ hcw)).trans hcw
            obtain rfl : zs = endsTo cs v n := by have := endsK_at (cs := cs) (k := cs.length) hvm; unfold endsN at hzs; rw [this] at hzs; injection hzs with hzs; rw [← hzs, HL.out]
            have hqe : qe = (endsTo cs v n).length := by have := hKe.1; rw [List.length_map] at this; exact this.symm
            have hql := endsTo_len cs v n
            have hlen4 : ds4.length ≤ 400 := by have h2 := HP4.out.length_eq; simp at h2; have := HLE.out; omega
            have HO6 := Lib.hid O6
            have HF6 := Lib.hid F6
            have HB6 := Lib.hid B6
            have HLQ := Lib.hid hqe
            rw [hun] at z0
            clear hDn O6 F6 hzs O4 O5 B4 B5 F4 F5 HD hqe G6
            go_wp2
            go_loopw [56] (fun t wx => ∃ (j : Nat) (es : List (Int × Int)), j ≤ qe ∧ t = .int .i64 (j : Int) ∧ Hid (FlX w4.heap.size wx p p es) ∧ Hid (es.Perm (ds4 ++ ((endsTo cs v n).take j).map (pushOf (tm : Int)))) ∧ Hid (HeapN es es.length) ∧ Hid (FrX w4.heap.size p w6 wx)) (fun t _ => qe - (intOf t).toNat)
            case atStart => exact ⟨0, ds4, Nat.zero_le _, rfl, HF6, Lib.hid (by simp), HN4, Lib.hid (FrX.refl _ _ _)⟩
            case round =>
              obtain ⟨j, es, hj, rfl, HFj, HPj, HNj, HRj⟩ := hrel
              have hpj : p ≤ w6.heap.size := by omega
              have Bj : Below w.heap.size w wr := HB6.out.trans ((HRj.out.below hpj).mono (Nat.le_of_lt hwp))
              have hAj := (HRj.out.block w4.heap.size s6 (.inr (.inl rfl))).trans hA6
              have hszj := HRj.out.size
              by_cases hlj : j < qe
              · have hljB : decide ((j : Int) < (qe : Int)) = true := by simp; omega
                have hjl : j < (endsTo cs v n).length := by rw [← HLQ.out]; exact hlj
                obtain ⟨be2, oe2, rfl, hbl2, d0, d1, d2⟩ := (hKe.bel Bj).cab7 hlj
                have hok := (endsTo_edge (cs := cs) (b := v) (e := cab (endsTo cs v n) j) (by rw [HL.out]; exact cab_mem hjl)).ok HC.out
                have hx2 : (endsTo cs v n)[j]? = some (cab (endsTo cs v n) j) := by unfold cab; rw [List.getD_eq_getElem?_getD, List.getElem?_eq_getElem hjl]; rfl
                have HT := Lib.hid (show ((endsTo cs v n).take (j + 1)).map (pushOf (tm : Int)) = ((endsTo cs v n).take j).map (pushOf (tm : Int)) ++ [pushOf (tm : Int) (cab (endsTo cs v n) j)] by rw [List.take_add_one, hx2, List.map_append]; rfl)
                have hlenj : es.length ≤ 800 := by
                  have h2 := HPj.out.length_eq
                  rw [List.length_append, List.length_map, List.length_take] at h2
                  have h3 := HLQ.out
                  omega
                obtain ⟨ee, hee⟩ : ∃ e, cab (endsTo cs v n) j = e := ⟨_, rfl⟩
                rw [hee] at d0 d1 d2 hok HT
                obtain ⟨e1, e2, e3⟩ := ee
                simp only at d0 d1 d2 hok
                have he3 : e3 ≤ 99 := hok.2.2.2.2
                have HPO := Lib.hid (show pushOf (tm : Int) (e1, e2, e3) = ((tm : Int) + (e3 : Int), (e1 : Int)) from rfl)
                have hEn := heap_alloc_new wr (.cells #[.int .i64 (e1 : Int), .int .i64 (e2 : Int), .int .i64 (e3 : Int)] 100)
                have hEz := heap_alloc_new wr (.cells #[.int .i64 0, .int .i64 0, .int .i64 0] 100)
                obtain ⟨q0, q1, q2⟩ := cells3K hEz
                have BZ := (Below.refl wr.heap.size wr).alloc (Nat.le_refl _) (.cells #[.int .i64 (e1 : Int), .int .i64 (e2 : Int), .int .i64 (e3 : Int)] 100)
                generalize hWZ : wr.alloc (.cells #[.int .i64 (e1 : Int), .int .i64 (e2 : Int), .int .i64 (e3 : Int)] 100) = wz at hEn BZ
                obtain ⟨r0, r1, r2⟩ := cells3K hEn
                obtain ⟨t0, t1⟩ := cells2K ((BZ.block w4.heap.size (by omega)).trans hAj)
                have szz := BZ.size
                have CP := Lib.hid (heapPush_x (x := (tm : Int) + (e3 : Int)) (y := (e1 : Int)) (HFj.out.bel BZ) (show p ≤ wz.heap.size by omega) (show es.length < 1000000 by omega) HNj.out)
                have HRz := Lib.hid (HRj.out.trans (FrX.of_below (X := w4.heap.size) (lo := p) BZ))
                clear hok hx2 hee hEn hEz BZ hAj
                go_wp2_with (fail)
                refine CP.out.mono ?_
                rintro e wy ⟨rfl, ⟨es9, F9, P9, N9⟩, R9⟩
                have P10 := P9.trans (List.Perm.append_right [((tm : Int) + (e3 : Int), (e1 : Int))] HPj.out)
                rw [List.append_assoc, ← HPO.out, ← HT.out] at P10
                have HP10 := Lib.hid P10
                have HF10 := Lib.hid F9
                have HN10 := Lib.hid N9
                have HR10 := Lib.hid (HRz.out.trans R9)
                clear P9 P10 F9 N9 R9
                go_wp2
                go_roundw
                case rel => exact ⟨j + 1, es9, by omega, by go_num, HF10, HP10, HN10, HR10⟩
                case measure => simp [intOf]; omega
              · have hljB : decide ((j : Int) < (qe : Int)) = false := by simp; omega
                obtain rfl : j = qe := by omega
                rw [List.take_of_length_le (by rw [← HLQ.out]; exact Nat.le_refl _)] at HPj
                have F9 := HFj.out.low hwp
                have O9 := HO6.out.frX HRj.out
                have D9 : Dj k cs (col.set v (tm : Int)) es := HDN.out.perm (by rw [HL.out]; exact HPj.out)
                have hlt9 : es.length + leftN cs (col.set v (tm : Int)) k < ds.length + leftN cs col k := by
                  have h2 := HPj.out.length_eq
                  have h3 := HP4.out.length_eq
                  have h4 := HLS.out
                  have h5 := HL.out
                  rw [h5] at h4
                  simp at h2 h3
                  omega
                have HM9 := Lib.hid (show fLen wr p + leftN cs (colOf wr g1 k) k < ds.length + leftN cs col k by rw [F9.fLen, own_colOf O9]; exact hlt9)
                have HL9 := Lib.hid (show es.length + leftN cs (col.set v (tm : Int)) k ≤ 400 by have := HLE.out; omega)
                clear hlt9
                go_wp2
                go_roundw
                case rel => exact ⟨_, es, Lib.hid O9, Lib.hid F9, Lib.hid D9, HNj, HL9, Lib.hid Bj, by omega⟩
                case measure => have h9 := HM9.out; rw [← HME.out] at h9; exact h9
          · have hunB : (gi col v != -1) = true := by simp [hun]
            have D9 := HD.out.skip HP4.out hun
            have hlt9 : ds4.length + leftN cs col k < ds.length + leftN cs col k := by have h3 := HP4.out.length_eq; simp at h3; omega
            have HM9 := Lib.hid (show fLen w5 p + leftN cs (colOf w5 g1 k) k < ds.length + leftN cs col k by rw [F5.fLen, own_colOf O5]; exact hlt9)
            have HL9 := Lib.hid (show ds4.length + leftN cs col k ≤ 400 by have := HLE.out; omega)
            have HO5 := Lib.hid O5
            have HF5 := Lib.hid F5
            have HB5 := Lib.hid B5
            clear hlt9 O4 B4 F4 O5 F5 B5
            go_wp2
            go_roundw
            case rel => exact ⟨col, ds4, HO5, HF5, Lib.hid D9, HN4, HL9, HB5, by omega⟩
            case measure => have h9 := HM9.out; rw [← HME.out] at h9; exact h9
end Go.Proofs.Ytkmdpmhaljieaaa
