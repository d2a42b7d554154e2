/-
  Chapter 8's program, LevelsFrom and ReadLine: what is proved here is what they return, in memory of their own, and that they write nothing that was there. Condition: lengths up to 2^24.
-/
import Derived.Test.YtbeebaiionlcoaaImp8e
import Derived.Test.YtbeebaiionlcoaaImp8f
import Derived.Deep.RegionLaw
import Derived.RangeFuncNested
namespace Go.Proofs.Ytbeebaiionlcoaa
open Go.RowKit Go.Shelf

attribute [local go_sem] Oper.semAt_some

/- An operation of a region within a round is carried out as everywhere. -/
theorem operIn_round {l n : Nat} {P : Program} {o : Oper} {a : Act} {w : World} {K : Act → World → Prop} {Q : Exit → Act → World → Prop} (hd : ∀ c, o.op ≠ .defer c) (h : o.wp P a w K Q) : o.wpIn (Fence.wide.inRound l) n P a w K Q := by
  unfold Oper.wpIn
  unfold Oper.wp at h
  refine ⟨fun _ _ => trivial, ?_⟩
  rw [Oper.semAt_eq _ _ _ hd]
  generalize (execOp a.eval o).run P w = r at *
  cases r with
  | ok x w' =>
    cases x with
    | enter f args => exact ⟨fun hq => (by cases hq), callsIn_wide.2 h⟩
    | row f args => exact ⟨fun hq => (by cases hq), fun c cs _ => let ⟨v, w'', r, s⟩ := h c cs; ⟨v, w'', r, stepsIn_wide.2 s⟩⟩
    | value v => exact h
    | skip => exact h
    | defer d => exact h
    | _ => exact h.elim
  | halt x w' =>
    cases x with
    | panic v => exact h
    | _ => exact h.elim
theorem anyIn_round {l n : Nat} {P : Program} {md : Region.Mode} {ops : Array Oper} {Q : Exit → Act → World → Prop} (hd : ∀ (i : Nat) o, ops[i]? = some o → ∀ c, o.op ≠ .defer c) (hQ : ¬ LetsOut Q) :
    ∀ (fuel : Nat) (listed : Array Bool) (a : Act) (w : World), wpAny P md ops Q fuel listed a w → wpAnyIn (Fence.wide.inRound l) n P md ops Q fuel listed a w
  | 0, _, _, _, h => h
  | fuel + 1, listed, a, w, h => ⟨h.1, fun i hi => by
      have h2 := h.2 i hi
      unfold wpOp at h2
      unfold wpOpIn
      cases ho : ops[i]? with
      | none => rw [ho] at h2; exact anyIn_round hd hQ fuel _ _ _ h2
      | some o =>
        rw [ho] at h2
        dsimp only at h2 ⊢
        split at h2
        · rename_i hw
          rw [if_pos hw]
          rcases h2 with h2 | ⟨_, h2⟩
          · exact Oper.wpIn_mono (fun a w h => anyIn_round hd hQ fuel _ a w h) (operIn_round (hd i o ho) h2)
          · exact absurd h2 hQ
        · rename_i hw
          rw [if_neg hw]
          exact ⟨fun _ _ => trivial, anyIn_round hd hQ fuel _ _ _ h2⟩⟩
def noDefer (o : Oper) : Bool := match o.op with
  | .defer _ => false
  | _ => true
theorem noDefer_op {ops : Array Oper} (h : ops.toList.all noDefer = true) (i : Nat) (o : Oper) (ho : ops[i]? = some o) : ∀ c, o.op ≠ .defer c := fun c e => by
  have hm : o ∈ ops.toList := by rw [Array.mem_toList_iff]; exact Array.mem_of_getElem? ho
  have := List.all_eq_true.1 h o hm
  unfold noDefer at this
  rw [e] at this
  cases this
theorem region_round {l n id : Nat} {P : Program} {ops : Array Oper} {Q : Exit → Act → World → Prop} {a : Act} {w : World} (hm : P.follows .mixedOrders = true) (hd : ops.toList.all noDefer = true) (hQ : ¬ LetsOut Q)
    (h : wpAny P .any ops Q ops.size (Array.replicate ops.size false) a w.drew) : (Code.region id ops true).wpIn (Fence.wide.inRound l) n P Q a w :=
  wpIn_region_any hm (anyIn_round (noDefer_op hd) hQ _ _ _ _ h)

theorem results_two8 {fn : Func} {p u : Tmp} (h : fn.results = #[.cell p 23, .cell u 4]) (tmps : Array Value) (w : World) {B C : Nat} {x y : Value} (hp : tmps.getD p undef = .pointer (some ⟨B, 0, none⟩)) (hu : tmps.getD u undef = .pointer (some ⟨C, 0, none⟩)) (hx : Boxed w B 23 x) (hy : Boxed w C 4 y) :
    (results fn tmps).run Try.prog w = .ok (.tuple #[x, y]) w := by
  have hp' : tmps[p]?.getD undef = .pointer (some ⟨B, 0, none⟩) := by simpa using hp
  have hu' : tmps[u]?.getD undef = .pointer (some ⟨C, 0, none⟩) := by simpa using hu
  have c0 := hx.cell
  have c1 := hy.cell
  simp only [results, h]
  simp [hp', hu', asAddr]
  go_simp
theorem keeps_below {W W' : World} (h : Below W.heap.size W W') : KeepsOthers W W' := KeepsOthers.of_grownBy (grown_of_below h) (fun j _ e => by cases e)
theorem has_news {W : World} {g n : Nat} {xs : List Value} (h : Has W (some ⟨g, 0, none⟩) n xs) : ∀ j u, xs[j]? = some u → W.cell? ((⟨g, 0, none⟩ : Addr).add j) = some u := fun j u hu => by
  have hj : j < n := by have h1 := (List.getElem?_eq_some_iff.1 hu).1; have := h.1; omega
  obtain ⟨b, o, hA, hc⟩ := h.2 j hj
  injection hA with hA
  injection hA with e1 e2
  subst e1 e2
  have hadd : (⟨g, 0, none⟩ : Addr).add j = ⟨g, 0 + j, none⟩ := by unfold Addr.add; split <;> simp_all
  rw [hadd, hc, hu]
/-- A variable's box, and a row appended to the row that it holds. -/
theorem box_grown {W w1 : World} {n₁ Bo : Nat} {v v' : Value} {k m : Nat} {xs ys : List Value}
    (hv : Boxed W Bo 23 v) (hrow : W.ownsRow n₁ 3 1 v k xs) (hn : n₁ ≤ W.heap.size)
    (hown' : w1.ownsRow n₁ 3 1 v' m ys) (hgrow : W.grownBy w1 v.ownBlock) :
    Boxed w1 Bo 23 v ∧ Boxed (w1.setCell ⟨Bo, 0, none⟩ v') Bo 23 v' ∧ (w1.setCell ⟨Bo, 0, none⟩ v').ownsRow n₁ 3 1 v' m ys ∧ KeepsOthers W (w1.setCell ⟨Bo, 0, none⟩ v') ∧ But n₁ Bo W (w1.setCell ⟨Bo, 0, none⟩ v') := by
  have hv1 : Boxed w1 Bo 23 v := hv.kept hgrow (hv.not_row (by decide) hrow)
  refine ⟨hv1, hv1.set v', hown'.kept (grownBy_setCell' w1 Bo v') (.inr (hv1.not_row (by decide) hown').symm), ?_, ?_⟩
  · refine (KeepsOthers.of_grownBy hgrow fun j o ej hj => ?_).trans (KeepsOthers.setCell _ _ _)
    rcases hrow.2 with ⟨rfl, _⟩ | ⟨g, cap, cur, rfl, _, hgb, _⟩
    · simp [Value.ownBlock] at ej
    · obtain rfl : g = j := by simpa [Value.ownBlock] using ej
      rw [hgb] at hj; cases hj; rfl
  · refine (But.of_below ((Below.refl n₁ W).grown hgrow hn fun j ej => ?_)).setCell 0 v'
    rcases hrow.2 with ⟨rfl, _⟩ | ⟨g, cap, cur, rfl, hb, _, _⟩
    · simp [Value.ownBlock] at ej
    · obtain rfl : g = j := by simpa [Value.ownBlock] using ej
      exact hb
theorem boxed_put {W : World} {B D : Nat} {t : TypeId} {v : Value} {o : Obj} (h : Boxed W B t v) (hne : B ≠ D) : Boxed (W.putObj D o) B t v := (World.putObj_heap_other hne).trans h
/-- Levels that have come so far. -/
def acc8 (W : Nat) (pre : List Run8) : List Int := (levP W (vals8 pre)).getD []
def Good8 (W : Nat) (pre : List Run8) : Prop := levP W (vals8 pre) = some (acc8 W pre) ∧ (acc8 W pre).length ≤ 400 ∧ ∀ p ∈ vals8 pre, p.1 = 0 ∨ p.1 = 1
def Stop8 (W : Nat) (pre : List Run8) : Prop := levP W (vals8 pre) = none ∨ (∃ o, levP W (vals8 pre) = some o ∧ 400 < o.length) ∨ ∃ p ∈ vals8 pre, ¬ (p.1 = 0 ∨ p.1 = 1)
theorem good_none {W : Nat} {pre : List Run8} {x : Run8} (h : Good8 W pre) (h0 : lasting x.1.2 W = 0) : Stop8 W (pre ++ [x]) := .inl (by rw [vals8_snoc, levP_snoc h.1, if_pos h0])
theorem good_bit {W : Nat} {pre : List Run8} {x : Run8} (h0 : ¬ (x.1.1 = 0 ∨ x.1.1 = 1)) : Stop8 W (pre ++ [x]) := .inr (.inr ⟨x.1, by rw [vals8_snoc]; simp, h0⟩)
theorem good_next {W : Nat} {pre : List Run8} {x : Run8} (h : Good8 W pre) (h0 : lasting x.1.2 W ≠ 0) : levP W (vals8 (pre ++ [x])) = some (acc8 W pre ++ List.replicate (lasting x.1.2 W) x.1.1) := by rw [vals8_snoc, levP_snoc h.1, if_neg h0]
theorem good_long {W : Nat} {pre : List Run8} {x : Run8} (h : Good8 W pre) (h0 : lasting x.1.2 W ≠ 0) (h4 : 400 < (acc8 W pre).length + lasting x.1.2 W) : Stop8 W (pre ++ [x]) := .inr (.inl ⟨_, good_next h h0, by simpa using h4⟩)
theorem good_acc {W : Nat} {pre : List Run8} {x : Run8} (h : Good8 W pre) (h0 : lasting x.1.2 W ≠ 0) : acc8 W (pre ++ [x]) = acc8 W pre ++ List.replicate (lasting x.1.2 W) x.1.1 := by
  show (levP W (vals8 (pre ++ [x]))).getD [] = _
  rw [good_next h h0]; rfl
theorem good_more {W : Nat} {pre : List Run8} {x : Run8} (h : Good8 W pre) (h0 : lasting x.1.2 W ≠ 0) (hb : x.1.1 = 0 ∨ x.1.1 = 1) (h4 : (acc8 W pre).length + lasting x.1.2 W ≤ 400) : Good8 W (pre ++ [x]) :=
  ⟨by rw [good_acc h h0]; exact good_next h h0, by rw [good_acc h h0]; simpa using h4, fun p hp => by
    rw [vals8_snoc] at hp
    rcases List.mem_append.1 hp with hp | hp
    · exact h.2.2 p hp
    · simp at hp; subst hp; exact hb⟩
set_option maxRecDepth 100000 in
set_option maxHeartbeats 8000000 in
theorem implLevelsFrom_in {A : Option Addr} {n c : Nat} {ts : List Int} {wd : Int} {r : List Int × Bool} {w : World} (hr : levelsFromL ts wd = r) (h : Has w A n (ints .i64 ts)) (hn : n ≤ 16777216) :
    CallsIn Fence.wide 5 Try.prog 31 #[.slice A n c, .int .i64 wd] w fun e w' => ∃ A' n' c', e = .returned (.tuple #[.slice A' n' c', .bool r.2]) ∧ Own w' w.heap.size 3 A' n' c' (ints .i64 r.1) ∧ Below w.heap.size w w' := by
  have h1 : 1 ≤ 5 := by decide
  obtain ⟨i0, hi, hz0, hz1, hz2⟩ := info_parts Try.infoInt
  have HL := Lib.hid h.len
  have hlen := h.len
  by_cases hwd : 1 ≤ wd ∧ wd ≤ 40
  rotate_left
  · have HE := Lib.hid (levelsFromL_no (ts := ts) (w := wd) (fun hh => hwd hh.2.1))
    have C := Lib.hid (fun W => isWidth_no W hwd)
    clear hlen hwd
    obtain rfl := HE.out.symm.trans hr
    refine callsIn_wide.2 ?_
    go_enter Try.func31, Try.ntmps31
    go_wp2_with (fail)
    refine (C.out _).mono ?_
    rintro e w' ⟨rfl, rfl⟩
    go_wp2
    have b1 : Boxed (((w.alloc (.cells #[.int .i64 wd] 3)).alloc (.cells #[.slice none 0 0] 23)).alloc (.cells #[.bool false] 4)) (w.heap.size + 1) 23 (.slice none 0 0) := by
      have := Boxed.new (w.alloc (.cells #[.int .i64 wd] 3)) 23 (.slice none 0 0)
      rw [World.size_alloc] at this; exact this.alloc _
    have b2 : Boxed (((w.alloc (.cells #[.int .i64 wd] 3)).alloc (.cells #[.slice none 0 0] 23)).alloc (.cells #[.bool false] 4)) (w.heap.size + 1 + 1) 4 (.bool false) := by
      have := Boxed.new ((w.alloc (.cells #[.int .i64 wd] 3)).alloc (.cells #[.slice none 0 0] 23)) 4 (.bool false)
      rw [World.size_alloc, World.size_alloc] at this; exact this
    refine bodyPost_ret (results_two8 rfl _ _ rfl rfl b1 b2) rfl ?_
    exact ⟨_, _, _, rfl, World.ownsRow_nil _ _ _ _, (((Below.refl _ _).alloc (Nat.le_refl _) _).alloc (by simp) _).alloc (by simp; omega) _⟩
  by_cases h4 : n ≤ 16000
  rotate_left
  · have h4B : decide ((n : Int) > 16000) = true := by simp; omega
    have h4C : decide (16000 < (n : Int)) = true := by simp; omega
    have HE := Lib.hid (levelsFromL_no (ts := ts) (w := wd) (fun hh => h4 (by omega)))
    have C := Lib.hid (fun W => isWidth_yes W hwd)
    clear hlen hwd
    obtain rfl := HE.out.symm.trans hr
    refine callsIn_wide.2 ?_
    go_enter Try.func31, Try.ntmps31
    go_wp2_with (fail)
    refine (C.out _).mono ?_
    rintro e w' ⟨rfl, rfl⟩
    go_wp2
    have b1 : Boxed (((w.alloc (.cells #[.int .i64 wd] 3)).alloc (.cells #[.slice none 0 0] 23)).alloc (.cells #[.bool false] 4)) (w.heap.size + 1) 23 (.slice none 0 0) := by
      have := Boxed.new (w.alloc (.cells #[.int .i64 wd] 3)) 23 (.slice none 0 0)
      rw [World.size_alloc] at this; exact this.alloc _
    have b2 : Boxed (((w.alloc (.cells #[.int .i64 wd] 3)).alloc (.cells #[.slice none 0 0] 23)).alloc (.cells #[.bool false] 4)) (w.heap.size + 1 + 1) 4 (.bool false) := by
      have := Boxed.new ((w.alloc (.cells #[.int .i64 wd] 3)).alloc (.cells #[.slice none 0 0] 23)) 4 (.bool false)
      rw [World.size_alloc, World.size_alloc] at this; exact this
    refine bodyPost_ret (results_two8 rfl _ _ rfl rfl b1 b2) rfl ?_
    exact ⟨_, _, _, rfl, World.ownsRow_nil _ _ _ _, (((Below.refl _ _).alloc (Nat.le_refl _) _).alloc (by simp) _).alloc (by simp; omega) _⟩
  have h4B : decide ((n : Int) > 16000) = false := by simp; omega
  have h4C : decide (16000 < (n : Int)) = false := by simp; omega
  have HR := Lib.hid hr
  have CW := Lib.hid (fun W => isWidth_yes W hwd)
  obtain ⟨Wd, rfl⟩ : ∃ Wd : Nat, wd = (Wd : Int) := ⟨wd.toNat, by omega⟩
  have hW1 : 1 ≤ Wd ∧ Wd ≤ 40 := by omega
  clear hr hlen hwd
  refine callsIn_of_wp_marks Try.func31 rfl trivial ?_ rfl
  simp only [Try.ntmps31, List.size_toArray, List.length_cons, List.length_nil, Nat.reduceAdd, Nat.reduceSub, Array.replicate_succ, Array.replicate_zero, List.push_toArray, List.append_toArray, List.nil_append, List.cons_append]
  gi_wp2_with (first | (refine ⟨trivial, ?_⟩; gi_at_call 51; refine (callsIn_wide.2 (CW.out _)).mono ?_; rintro e w' ⟨rfl, rfl⟩) | (gi_at_call 51; refine (callsIn_wide.2 (CW.out _)).mono ?_; rintro e w' ⟨rfl, rfl⟩) | (refine ⟨trivial, ?_⟩; gi_at_call 43; refine (callsIn_wide.2 (runsIn_any _)).mono ?_; rintro e w' ⟨rfl, rfl⟩) | (gi_at_call 43; refine (callsIn_wide.2 (runsIn_any _)).mono ?_; rintro e w' ⟨rfl, rfl⟩))
  obtain ⟨W0, hW0⟩ : ∃ W0, (((((w.alloc (.cells #[.int .i64 (Wd : Int)] 3)).alloc (.cells #[.slice none 0 0] 23)).alloc (.cells #[.bool false] 4)).alloc (.cells #[.slice none 0 0] 23)).alloc (.cells #[.slice A n c] 23)) = W0 := ⟨_, rfl⟩
  have s0 : W0.heap.size = w.heap.size + 1 + 1 + 1 + 1 + 1 := by rw [← hW0]; simp
  have b0 : Boxed W0 w.heap.size 3 (.int .i64 (Wd : Int)) := by
    rw [← hW0]; exact ((((Boxed.new w _ _).alloc _).alloc _).alloc _).alloc _
  have b1 : Boxed W0 (w.heap.size + 1) 23 (.slice none 0 0) := by
    have := Boxed.new (w.alloc (.cells #[.int .i64 (Wd : Int)] 3)) 23 (.slice none 0 0)
    rw [World.size_alloc] at this; rw [← hW0]; exact ((this.alloc _).alloc _).alloc _
  have b2 : Boxed W0 (w.heap.size + 1 + 1) 4 (.bool false) := by
    have := Boxed.new ((w.alloc (.cells #[.int .i64 (Wd : Int)] 3)).alloc (.cells #[.slice none 0 0] 23)) 4 (.bool false)
    rw [World.size_alloc, World.size_alloc] at this; rw [← hW0]; exact (this.alloc _).alloc _
  have b3 : Boxed W0 (w.heap.size + 1 + 1 + 1) 23 (.slice none 0 0) := by
    have := Boxed.new (((w.alloc (.cells #[.int .i64 (Wd : Int)] 3)).alloc (.cells #[.slice none 0 0] 23)).alloc (.cells #[.bool false] 4)) 23 (.slice none 0 0)
    rw [World.size_alloc, World.size_alloc, World.size_alloc] at this; rw [← hW0]; exact this.alloc _
  have bL : W0.heap[w.heap.size + 1 + 1 + 1 + 1]? = some (.cells #[.slice A n c] 23 (0, 0)) := by
    have := Boxed.new ((((w.alloc (.cells #[.int .i64 (Wd : Int)] 3)).alloc (.cells #[.slice none 0 0] 23)).alloc (.cells #[.bool false] 4)).alloc (.cells #[.slice none 0 0] 23)) 23 (.slice A n c)
    rw [World.size_alloc, World.size_alloc, World.size_alloc, World.size_alloc] at this; rw [← hW0]; exact this
  have hB0 : Below w.heap.size w W0 := by rw [← hW0]; exact (((((Below.refl _ _).alloc (Nat.le_refl _) _).alloc (by simp) _).alloc (by simp; omega) _).alloc (by simp; omega) _).alloc (by simp; omega) _
  have hw0 := h.bel hB0
  have hlist : ∀ b o, A = some ⟨b, o, none⟩ → 0 < n → b < W0.heap.size ∧ b ≠ w.heap.size + 1 + 1 + 1 := fun b o hA h0 => by
    obtain ⟨b', o', z, e, hbl, _⟩ := h.at_ h0
    rw [hA] at e
    injection e with e
    injection e with e1
    have : b' < w.heap.size := hbl
    omega
  rw [hW0]
  refine wpIn_rangeFunc_ownG rfl h1 (gf := 54) (lb := #[.pointer (some ⟨w.heap.size + 1 + 1 + 1 + 1, 0, none⟩)]) rfl trivial (enters_of Try.func54 (by kernel_rfl) rfl) (runs_stops (5 - 1) (by decide) (Bo := w.heap.size + 1 + 1 + 1) bL hw0 hn ⟨by omega, by omega⟩ hlist (Nat.le_refl _)) But.trans (but_b (Nat.le_refl _)) (Below.refl _ _) (fun _ => rfl)
    (fun pre W => (∃ v, Boxed W (w.heap.size + 1 + 1 + 1) 23 v ∧ W.ownsRow W0.heap.size 3 1 v (acc8 Wd pre).length (ints .i64 (acc8 Wd pre)) ∧ Good8 Wd pre) ∧ But W0.heap.size (w.heap.size + 1 + 1 + 1) W0 W)
    (fun c pre W => (c = .ret ∧ Stop8 Wd pre) ∧ (Boxed W (w.heap.size + 1) 23 (.slice none 0 0) ∧ Boxed W (w.heap.size + 1 + 1) 4 (.bool false)) ∧ Below w.heap.size w W)
    (OwnFrom.and (Go.Own.from (holdsRow_own W0.heap.size (w.heap.size + 1 + 1 + 1) 23 3 1 (fun pre : List Run8 => (acc8 Wd pre).length) (fun pre => ints .i64 (acc8 Wd pre)) (fun pre _ => Good8 Wd pre)) _) (ownFrom_but (Nat.le_refl _) (Nat.le_refl _)))
    (fun _ => OwnFrom.and (ownFrom_pure _ _) (OwnFrom.and (OwnFrom.and (Go.Own.from (boxed_own _ _ (fun _ => _)) _) (Go.Own.from (boxed_own _ _ (fun _ => _)) _)) (ownFrom_below (Nat.le_refl _) (by omega))))
    ⟨⟨_, b3, World.ownsRow_nil _ _ _ _, ⟨rfl, Nat.zero_le _, fun _ hp => by cases hp⟩⟩, But.refl _ _ _⟩
    (fun x => { tmps := #[.slice A n c, .int .i64 (Wd : Int), undef, .pointer (some ⟨w.heap.size, 0, none⟩), .pointer (some ⟨w.heap.size + 1, 0, none⟩), .pointer (some ⟨w.heap.size + 1 + 1, 0, none⟩), .pointer (some ⟨w.heap.size + 1 + 1 + 1, 0, none⟩), .int .i64 x.1.1, .int .i64 (x.1.2 : Int), undef, undef, .int .i64 (Wd : Int), .bool true, .bool false, .bool false, .slice A n c, .int .i64 (n : Int), .bool false, .bool false, .slice A n c, .func (.func 54) #[] #[.pointer (some ⟨w.heap.size + 1 + 1 + 1 + 1, 0, none⟩)], .int .i64 x.1.1, .int .i64 (x.1.2 : Int), undef, undef, undef, undef, undef, undef, undef, undef, undef, undef, undef, undef, undef, undef, undef, undef, undef, undef, undef, undef, undef, undef, undef, undef, undef, undef, undef], defers := [] }) ?assign ?body ?done ?stop
  case assign =>
    intro l x W K hK
    dsimp only [enc8]
    gi_wp2
    exact hK
  case body =>
    rintro l pre x W ⟨⟨v, hv, hrow, hG⟩, hB⟩ hlt
    have hsz := hB.size
    have c0 := (hB.boxed b0 (by omega) (by omega)).cell
    have e1 := hB.boxed b1 (by omega) (by omega)
    have e2 := hB.boxed b2 (by omega) (by omega)
    have c1 := e1.cell
    have f1 := e1.frozen
    have c2 := e2.cell
    have f2 := e2.frozen
    have c3 := hv.cell
    have hBw := hB0.trans (hB.below (n₀ := w.heap.size) (by omega) (by omega))
    have hCL := fun W' => lasting_any W' x.2 hW1.2
    obtain ⟨la, hla⟩ : ∃ la, lasting x.1.2 Wd = la := ⟨_, rfl⟩
    rw [hla] at hCL
    have CL := Lib.hid hCL
    have HLA := Lib.hid hla
    clear hCL hla
    obtain ⟨Av, cv, rfl⟩ : ∃ Av cv, v = .slice Av (acc8 Wd pre).length cv := by
      rcases hrow.2 with ⟨rfl, h0⟩ | ⟨g, cap, cur, rfl, _⟩
      · exact ⟨none, 0, by rw [h0]⟩
      · exact ⟨_, _, rfl⟩
    have hal := hG.2.1
    have HX : Hid (∀ (W2 : World), W2 = (W.setCell ⟨w.heap.size + 1, 0, none⟩ (.slice none 0 0)).setCell ⟨w.heap.size + 1 + 1, 0, none⟩ (.bool false) → KeepsFrom W0.heap.size W W2 ∧ (Boxed W2 (w.heap.size + 1) 23 (.slice none 0 0) ∧ Boxed W2 (w.heap.size + 1 + 1) 4 (.bool false)) ∧ Below w.heap.size w W2) := fun W2 hW2 => by
      subst hW2
      refine ⟨((KeepsOthers.setCell _ _ _).trans (KeepsOthers.setCell _ _ _)).from _, ⟨(e1.set _).other (by omega) _, (e2.other (by omega) _).set _⟩, (hBw.setCell (p := ⟨w.heap.size + 1, 0, none⟩) (by show w.heap.size ≤ w.heap.size + 1; omega) _).setCell (p := ⟨w.heap.size + 1 + 1, 0, none⟩) (by show w.heap.size ≤ w.heap.size + 1 + 1; omega) _⟩
    by_cases hl0 : la = 0
    · subst hl0
      have l0B : ((0 : Nat) != 0) = false := rfl
      have HS := Lib.hid (good_none hG HLA.out)
      clear hlt
      gi_wp2_with (first | (refine ⟨trivial, ?_⟩; gi_at_call 52; refine (CallsIn.inRound l (callsIn_wide.2 (CL.out _))).mono ?_; rintro e w2 ⟨rfl, rfl⟩) | (gi_at_call 52; refine (CallsIn.inRound l (callsIn_wide.2 (CL.out _))).mono ?_; rintro e w2 ⟨rfl, rfl⟩))
      refine ⟨trivial, ?_⟩
      gi_wp2
      obtain ⟨q1, q2, q3⟩ := HX.out _ rfl
      exact ⟨q1, ⟨rfl, HS.out⟩, q2, q3⟩
    have l0B : (la != 0) = true := by simpa using hl0
    have hl0' : lasting x.1.2 Wd ≠ 0 := by rw [HLA.out]; exact hl0
    by_cases hbit : x.1.1 = 0 ∨ x.1.1 = 1
    rotate_left
    · have HS := Lib.hid (good_bit (W := Wd) (pre := pre) hbit)
      have CB := Lib.hid (fun W' => isBit_no (z := x.1.1) W' hbit)
      clear hlt hl0 hl0' hbit
      gi_wp2_with (first | (refine ⟨trivial, ?_⟩; gi_at_call 52; refine (CallsIn.inRound l (callsIn_wide.2 (CL.out _))).mono ?_; rintro e w2 ⟨rfl, rfl⟩) | (gi_at_call 52; refine (CallsIn.inRound l (callsIn_wide.2 (CL.out _))).mono ?_; rintro e w2 ⟨rfl, rfl⟩) | (refine ⟨trivial, ?_⟩; gi_at_call 53; refine (CallsIn.inRound l (callsIn_wide.2 (CB.out _))).mono ?_; rintro e w2 ⟨rfl, rfl⟩) | (gi_at_call 53; refine (CallsIn.inRound l (callsIn_wide.2 (CB.out _))).mono ?_; rintro e w2 ⟨rfl, rfl⟩))
      obtain ⟨q1, q2, q3⟩ := HX.out _ rfl
      exact ⟨q1, ⟨rfl, HS.out⟩, q2, q3⟩
    have CB := Lib.hid (fun W' => isBit_yes (z := x.1.1) W' hbit)
    have hla2 : la ≤ 2 := by rw [← HLA.out]; exact lasting_le _ _
    obtain ⟨q, hq⟩ : ∃ q, (acc8 Wd pre).length = q := ⟨_, rfl⟩
    rw [hq] at hrow hal c3 hv
    have hqW : IntKind.i64.wrap ((q : Int) + (la : Int)) = (q : Int) + (la : Int) := IntWalk.i64_in _ (by omega)
    by_cases hlong : q + la ≤ 400
    rotate_left
    · have HS := Lib.hid (good_long hG hl0' (by rw [hq, HLA.out]; omega))
      have g0 : decide ((q : Int) + (la : Int) > 400) = true := by simp; omega
      have g1 : decide (400 < (q : Int) + (la : Int)) = true := by simp; omega
      have g2 : decide (400 < q + la) = true := by simp; omega
      clear hlt hl0 hl0' hbit hlong
      gi_wp2_with (first | (refine ⟨trivial, ?_⟩; gi_at_call 52; refine (CallsIn.inRound l (callsIn_wide.2 (CL.out _))).mono ?_; rintro e w2 ⟨rfl, rfl⟩) | (gi_at_call 52; refine (CallsIn.inRound l (callsIn_wide.2 (CL.out _))).mono ?_; rintro e w2 ⟨rfl, rfl⟩) | (refine ⟨trivial, ?_⟩; gi_at_call 53; refine (CallsIn.inRound l (callsIn_wide.2 (CB.out _))).mono ?_; rintro e w2 ⟨rfl, rfl⟩) | (gi_at_call 53; refine (CallsIn.inRound l (callsIn_wide.2 (CB.out _))).mono ?_; rintro e w2 ⟨rfl, rfl⟩))
      obtain ⟨q1, q2, q3⟩ := HX.out _ rfl
      exact ⟨q1, ⟨rfl, HS.out⟩, q2, q3⟩
    have HG := Lib.hid (good_more hG hl0' hbit (by rw [hq, HLA.out]; exact hlong))
    have HA := Lib.hid (good_acc hG hl0')
    have g0 : decide ((q : Int) + (la : Int) > 400) = false := by simp; omega
    have g1 : decide (400 < (q : Int) + (la : Int)) = false := by simp; omega
    have g2 : decide (400 < q + la) = false := by simp; omega
    have HQ := Lib.hid hq
    have hl1 : 1 ≤ la := by omega
    clear hlt hl0 hl0' hbit hG hq
    gi_wp2_with (first | (refine ⟨trivial, ?_⟩; gi_at_call 52; refine (CallsIn.inRound l (callsIn_wide.2 (CL.out _))).mono ?_; rintro e w2 ⟨rfl, rfl⟩) | (gi_at_call 52; refine (CallsIn.inRound l (callsIn_wide.2 (CL.out _))).mono ?_; rintro e w2 ⟨rfl, rfl⟩) | (refine ⟨trivial, ?_⟩; gi_at_call 53; refine (CallsIn.inRound l (callsIn_wide.2 (CB.out _))).mono ?_; rintro e w2 ⟨rfl, rfl⟩) | (gi_at_call 53; refine (CallsIn.inRound l (callsIn_wide.2 (CB.out _))).mono ?_; rintro e w2 ⟨rfl, rfl⟩))
    have hvD : Boxed W.drew (w.heap.size + 1 + 1 + 1) 23 (.slice Av q cv) := hv
    have hrowD : Own W.drew W0.heap.size 3 Av q cv (ints .i64 (acc8 Wd pre)) := World.ownsRow.drew hrow
    have hszD : W0.heap.size ≤ W.drew.heap.size := hsz
    have BWD : Below W.heap.size W W.drew := below_drewN W 1
    refine region_round (by kernel_rfl) (by rfl) (fun ⟨_, _, hh⟩ => hh) ?_
    generalize W.drew = D at *
    have cD := hvD.cell
    have cDA := (hvD.alloc (.cells #[.int .i64 x.1.1] 3)).cell
    have REP := Lib.hid (repeat_any (c := 1) (has_one D x.1.1) hl1 (show la ≤ 65536 by omega))
    have BA : Below D.heap.size D (D.alloc (.cells #[.int .i64 x.1.1] 3)) := (Below.refl _ _).alloc (Nat.le_refl _) _
    have hDA : D.heap.size ≤ (D.alloc (.cells #[.int .i64 x.1.1] 3)).heap.size := BA.size
    clear c0 e1 e2 c1 f1 c2 f2 c3 hv hrow HX CL CB
    refine wpAny_take (i := 1) (v := .int .i64 x.1.1) rfl (by kernel_rfl) (by kernel_rfl) (by kernel_rfl) (fun _ _ _ h => h) (Or.inl ⟨by rfl, by (intro wS; go_simp)⟩) ?_
    (try simp only [Act.put, List.setIfInBounds_toArray])
    refine wpAny_take (i := 3) (v := .int .i64 (la : Int)) rfl (by kernel_rfl) (by kernel_rfl) (by kernel_rfl) (fun _ _ _ h => h) (Or.inl ⟨by rfl, by (intro wS; go_simp)⟩) ?_
    (try simp only [Act.put])
    refine wpAny_ready (rs := [0, 2]) (by kernel_rfl) (by simp) ?_
    refine AllReady.cons rfl (fun K hK => ?_) (AllReady.cons rfl (fun K hK => ?_) AllReady.nil)
    · go_simp
      refine hK _ _ ?_
      clear hK K
      (try simp only [Act.put, List.setIfInBounds_toArray, List.set_cons_zero, List.set_cons_succ])
      refine wpAny_ready (rs := [2]) (by kernel_rfl) (by simp) ?_
      refine AllReady.cons rfl (fun K hK => ?_) AllReady.nil
      go_simp
      refine hK _ _ ?_
      clear hK K
      (try simp only [Act.put, List.setIfInBounds_toArray, List.set_cons_zero, List.set_cons_succ])
      refine wpAny_ready (rs := [4]) (by kernel_rfl) (by simp) ?_
      refine AllReady.cons rfl (fun K hK => ?_) AllReady.nil
      go_simp
      refine REP.out.mono ?_
      rintro e W3 ⟨A3, c3', rfl, O3, B3⟩
      go_simp
      refine hK _ _ ?_
      clear hK K
      (try simp only [Act.put, List.setIfInBounds_toArray, List.set_cons_zero, List.set_cons_succ])
      obtain ⟨g3, rfl, _, _⟩ := O3.head (by omega)
      have BW3 := BA.trans (B3.mono hDA)
      have hv3 : Boxed W3 (w.heap.size + 1 + 1 + 1) 23 (.slice Av q cv) := (BW3.block _ (by have := hvD.lt; omega)).trans hvD
      have row3 : W3.ownsRow W0.heap.size 3 1 (.slice Av q cv) q (ints .i64 (acc8 Wd pre)) := Own.bel (A := Av) hrowD BW3
      have z3 : W0.heap.size ≤ W3.heap.size := Nat.le_trans hszD BW3.size
      refine wpAny_ready (rs := [5]) (by kernel_rfl) (by simp) ?_
      refine AllReady.cons rfl (fun K hK => ?_) AllReady.nil
      refine step_append_lies _ rfl (.tmp 43) (.tmp 47) 23 rfl W0.heap.size 3 i0 (.int .i64 0) 1 8 Try.underlying23 hi hz0 hz1 hz2 rfl (by decide) (.slice Av q cv) q (ints .i64 (acc8 Wd pre)) rfl row3 ⟨g3, 0, none⟩ la c3' (ints .i64 (List.replicate la x.1.1)) rfl (by simp [ints]) (has_news O3.has) (ints_oneCell _ _) (by omega) (by unfold maxLen; omega) (by omega) z3 _ rfl ?_
      intro g4 cap4 w4 O4 G4 _ _
      obtain ⟨hv4, hv5, hr5, hk5, hb5⟩ := box_grown hv3 row3 z3 O4 G4
      have c4 := hv4.cell
      have f4 := hv4.frozen
      refine hK _ _ ?_
      clear hK K
      (try simp only [Act.put, List.setIfInBounds_toArray])
      refine wpAny_ready (rs := [6]) (by kernel_rfl) (by simp) ?_
      refine AllReady.cons rfl (fun K hK => ?_) AllReady.nil
      go_simp
      refine hK _ _ ?_
      clear hK K
      (try simp only [Act.put, List.setIfInBounds_toArray, List.set_cons_zero, List.set_cons_succ])
      refine wpAny_done (by kernel_rfl) ?_ _
      have BW := BWD.trans (BW3.mono BWD.size)
      exact ⟨((keeps_below BW).trans hk5).from _, (But.of_below (BW.mono hsz)).trans hb5, ⟨⟨_, hv5, by rw [HA.out, HLA.out, List.length_append, HQ.out, List.length_replicate, ints_app]; exact hr5, HG.out⟩, hB.trans ((But.of_below (BW.mono hsz)).trans hb5)⟩⟩
    · go_simp
      refine hK _ _ ?_
      clear hK K
      (try simp only [Act.put, List.setIfInBounds_toArray, List.set_cons_zero, List.set_cons_succ])
      refine wpAny_ready (rs := [0, 4]) (by kernel_rfl) (by simp) ?_
      refine AllReady.cons rfl (fun K hK => ?_) (AllReady.cons rfl (fun K hK => ?_) AllReady.nil)
      · go_simp
        refine hK _ _ ?_
        clear hK K
        (try simp only [Act.put, List.setIfInBounds_toArray, List.set_cons_zero, List.set_cons_succ])
        refine wpAny_ready (rs := [4]) (by kernel_rfl) (by simp) ?_
        refine AllReady.cons rfl (fun K hK => ?_) AllReady.nil
        go_simp
        refine REP.out.mono ?_
        rintro e W3 ⟨A3, c3', rfl, O3, B3⟩
        go_simp
        refine hK _ _ ?_
        clear hK K
        (try simp only [Act.put, List.setIfInBounds_toArray, List.set_cons_zero, List.set_cons_succ])
        obtain ⟨g3, rfl, _, _⟩ := O3.head (by omega)
        have BW3 := BA.trans (B3.mono hDA)
        have hv3 : Boxed W3 (w.heap.size + 1 + 1 + 1) 23 (.slice Av q cv) := (BW3.block _ (by have := hvD.lt; omega)).trans hvD
        have row3 : W3.ownsRow W0.heap.size 3 1 (.slice Av q cv) q (ints .i64 (acc8 Wd pre)) := Own.bel (A := Av) hrowD BW3
        have z3 : W0.heap.size ≤ W3.heap.size := Nat.le_trans hszD BW3.size
        refine wpAny_ready (rs := [5]) (by kernel_rfl) (by simp) ?_
        refine AllReady.cons rfl (fun K hK => ?_) AllReady.nil
        refine step_append_lies _ rfl (.tmp 43) (.tmp 47) 23 rfl W0.heap.size 3 i0 (.int .i64 0) 1 8 Try.underlying23 hi hz0 hz1 hz2 rfl (by decide) (.slice Av q cv) q (ints .i64 (acc8 Wd pre)) rfl row3 ⟨g3, 0, none⟩ la c3' (ints .i64 (List.replicate la x.1.1)) rfl (by simp [ints]) (has_news O3.has) (ints_oneCell _ _) (by omega) (by unfold maxLen; omega) (by omega) z3 _ rfl ?_
        intro g4 cap4 w4 O4 G4 _ _
        obtain ⟨hv4, hv5, hr5, hk5, hb5⟩ := box_grown hv3 row3 z3 O4 G4
        have c4 := hv4.cell
        have f4 := hv4.frozen
        refine hK _ _ ?_
        clear hK K
        (try simp only [Act.put, List.setIfInBounds_toArray])
        refine wpAny_ready (rs := [6]) (by kernel_rfl) (by simp) ?_
        refine AllReady.cons rfl (fun K hK => ?_) AllReady.nil
        go_simp
        refine hK _ _ ?_
        clear hK K
        (try simp only [Act.put, List.setIfInBounds_toArray, List.set_cons_zero, List.set_cons_succ])
        refine wpAny_done (by kernel_rfl) ?_ _
        have BW := BWD.trans (BW3.mono BWD.size)
        exact ⟨((keeps_below BW).trans hk5).from _, (But.of_below (BW.mono hsz)).trans hb5, ⟨⟨_, hv5, by rw [HA.out, HLA.out, List.length_append, HQ.out, List.length_replicate, ints_app]; exact hr5, HG.out⟩, hB.trans ((But.of_below (BW.mono hsz)).trans hb5)⟩⟩
      · go_simp
        refine REP.out.mono ?_
        rintro e W3 ⟨A3, c3', rfl, O3, B3⟩
        go_simp
        refine hK _ _ ?_
        clear hK K
        (try simp only [Act.put, List.setIfInBounds_toArray, List.set_cons_zero, List.set_cons_succ])
        have BW3' := BA.trans (B3.mono hDA)
        have hv3' : Boxed W3 (w.heap.size + 1 + 1 + 1) 23 (.slice Av q cv) := (BW3'.block _ (by have := hvD.lt; omega)).trans hvD
        have c5 := hv3'.cell
        refine wpAny_ready (rs := [0]) (by kernel_rfl) (by simp) ?_
        refine AllReady.cons rfl (fun K hK => ?_) AllReady.nil
        go_simp
        refine hK _ _ ?_
        clear hK K
        (try simp only [Act.put, List.setIfInBounds_toArray, List.set_cons_zero, List.set_cons_succ])
        obtain ⟨g3, rfl, _, _⟩ := O3.head (by omega)
        have BW3 := BA.trans (B3.mono hDA)
        have hv3 : Boxed W3 (w.heap.size + 1 + 1 + 1) 23 (.slice Av q cv) := (BW3.block _ (by have := hvD.lt; omega)).trans hvD
        have row3 : W3.ownsRow W0.heap.size 3 1 (.slice Av q cv) q (ints .i64 (acc8 Wd pre)) := Own.bel (A := Av) hrowD BW3
        have z3 : W0.heap.size ≤ W3.heap.size := Nat.le_trans hszD BW3.size
        refine wpAny_ready (rs := [5]) (by kernel_rfl) (by simp) ?_
        refine AllReady.cons rfl (fun K hK => ?_) AllReady.nil
        refine step_append_lies _ rfl (.tmp 43) (.tmp 47) 23 rfl W0.heap.size 3 i0 (.int .i64 0) 1 8 Try.underlying23 hi hz0 hz1 hz2 rfl (by decide) (.slice Av q cv) q (ints .i64 (acc8 Wd pre)) rfl row3 ⟨g3, 0, none⟩ la c3' (ints .i64 (List.replicate la x.1.1)) rfl (by simp [ints]) (has_news O3.has) (ints_oneCell _ _) (by omega) (by unfold maxLen; omega) (by omega) z3 _ rfl ?_
        intro g4 cap4 w4 O4 G4 _ _
        obtain ⟨hv4, hv5, hr5, hk5, hb5⟩ := box_grown hv3 row3 z3 O4 G4
        have c4 := hv4.cell
        have f4 := hv4.frozen
        refine hK _ _ ?_
        clear hK K
        (try simp only [Act.put, List.setIfInBounds_toArray])
        refine wpAny_ready (rs := [6]) (by kernel_rfl) (by simp) ?_
        refine AllReady.cons rfl (fun K hK => ?_) AllReady.nil
        go_simp
        refine hK _ _ ?_
        clear hK K
        (try simp only [Act.put, List.setIfInBounds_toArray, List.set_cons_zero, List.set_cons_succ])
        refine wpAny_done (by kernel_rfl) ?_ _
        have BW := BWD.trans (BW3.mono BWD.size)
        exact ⟨((keeps_below BW).trans hk5).from _, (But.of_below (BW.mono hsz)).trans hb5, ⟨⟨_, hv5, by rw [HA.out, HLA.out, List.length_append, HQ.out, List.length_replicate, ints_app]; exact hr5, HG.out⟩, hB.trans ((But.of_below (BW.mono hsz)).trans hb5)⟩⟩
  case done =>
    rintro D ys W hD hS ⟨⟨v, hv, hrow, hG⟩, hB⟩ hK
    have e1 := hB.boxed b1 (by omega) (by omega)
    have e2 := hB.boxed b2 (by omega) (by omega)
    have c1 := e1.cell
    have f1 := e1.frozen
    have c2 := e2.cell
    have f2 := e2.frozen
    have c3 := hv.cell
    have hBw := hB0.trans (hB.below (n₀ := w.heap.size) (by omega) (by omega))
    have hgood := hG.1
    have hbits := hG.2.2
    rw [hS] at hgood hbits
    have HE := Lib.hid (levelsFromL_yes (rle_bits hbits) hW1 (by rw [HL.out]; exact h4) hgood hG.2.1)
    obtain ⟨Av, cv, rfl⟩ : ∃ Av cv, v = .slice Av (acc8 Wd ys).length cv := by
      rcases hrow.2 with ⟨rfl, h0⟩ | ⟨g, cap, cur, rfl, _⟩
      · exact ⟨none, 0, by rw [h0]⟩
      · exact ⟨_, _, rfl⟩
    obtain rfl := HE.out.symm.trans HR.out
    clear hgood hbits hG
    generalize (acc8 Wd ys).length = q at *
    gi_wp2
    have k5 : ((W.setCell ⟨w.heap.size + 1, 0, none⟩ (.slice Av q cv)).setCell ⟨w.heap.size + 1 + 1, 0, none⟩ (.bool true)).heap[D]? = some (.deferred (some [])) := ((KeepsOthers.setCell _ _ _).trans (KeepsOthers.setCell _ _ _)).same D _ hK rfl
    refine ⟨by simp, .inl ⟨_, _, rfl, run_takeDeferred k5, ?_⟩⟩
    have r1 := boxed_put (D := D) (o := .deferred none) ((e1.set (.slice Av q cv)).other (B' := w.heap.size + 1 + 1) (by omega) (.bool true)) (by omega)
    have r2 := boxed_put (D := D) (o := .deferred none) ((e2.other (B' := w.heap.size + 1) (by omega) (.slice Av q cv)).set (.bool true)) (by omega)
    have o1 := World.ownsRow.kept hrow (grownBy_setCell' W (w.heap.size + 1) (.slice Av q cv)) (.inr (e1.not_row (by decide) hrow).symm)
    have o2 := World.ownsRow.kept o1 (grownBy_setCell' _ (w.heap.size + 1 + 1) (.bool true)) (.inr ((e2.other (B' := w.heap.size + 1) (by omega) (.slice Av q cv)).not_row (by decide) o1).symm)
    have b5 := (hBw.setCell (p := ⟨w.heap.size + 1, 0, none⟩) (by show w.heap.size ≤ w.heap.size + 1; omega) (.slice Av q cv)).setCell (p := ⟨w.heap.size + 1 + 1, 0, none⟩) (by show w.heap.size ≤ w.heap.size + 1 + 1; omega) (.bool true)
    exact ⟨_, results_two8 rfl _ _ rfl rfl r1 r2, _, _, _, rfl, ownsRow_putObj (row_mono o2 (by omega)) _ k5 rfl, b5.trans (belowK_b (w := W0) (by omega) _ D _ _ hD k5 rfl rfl)⟩
  case stop =>
    rintro D c pre W hD hS ⟨⟨rfl, hst⟩, ⟨e1, e2⟩, hBw⟩ hK
    have HE := Lib.hid (levelsFrom_stop hS hst)
    obtain rfl := HE.out.symm.trans HR.out
    gi_wp2
    refine ⟨by simp, .inl ⟨_, _, rfl, run_takeDeferred hK, ?_⟩⟩
    exact ⟨_, results_two8 rfl _ _ rfl rfl (boxed_put e1 (by omega)) (boxed_put e2 (by omega)), _, _, _, rfl, World.ownsRow_nil _ _ _ _, hBw.trans (belowK_b (w := W0) (by omega) W D _ _ hD hK rfl rfl)⟩
theorem implLevelsFrom_r {A : Option Addr} {n c : Nat} {ts : List Int} {wd : Int} {r : List Int × Bool} {w : World} (hr : levelsFromL ts wd = r) (h : Has w A n (ints .i64 ts)) (hn : n ≤ 16777216) :
    Calls Try.prog 31 #[.slice A n c, .int .i64 wd] w fun e w' => ∃ A' n' c', e = .returned (.tuple #[.slice A' n' c', .bool r.2]) ∧ Own w' w.heap.size 3 A' n' c' (ints .i64 r.1) ∧ Below w.heap.size w w' := callsIn_wide.1 (implLevelsFrom_in hr h hn)
theorem implLevelsFrom_w {A : Option Addr} {n c : Nat} {ts : List Int} {wd : Int} {w : World} (h : Has w A n (ints .i64 ts)) (hn : n ≤ 16777216) :
    Calls Try.prog 31 #[.slice A n c, .int .i64 wd] w fun e w' => ∃ A' n' c', e = .returned (.tuple #[.slice A' n' c', .bool (levelsFromL ts wd).2]) ∧ Own w' w.heap.size 3 A' n' c' (ints .i64 (levelsFromL ts wd).1) ∧ Below w.heap.size w w' := implLevelsFrom_r rfl h hn
theorem implReadLine_w {A : Option Addr} {n c : Nat} {ts : List Int} {wd : Int} {w : World} (h : Has w A n (ints .i64 ts)) (hn : n ≤ 16777216) :
    Calls Try.prog 29 #[.slice A n c, .int .i64 wd] w fun e w' => ∃ A' n' c', e = .returned (.tuple #[.slice A' n' c', .bool (readLineL ts wd).2]) ∧ Own w' w.heap.size 3 A' n' c' (ints .i64 (readLineL ts wd).1) ∧ Below w.heap.size w w' := by
  have hlen := levelsFromL_len ts wd
  obtain ⟨r, hr⟩ : ∃ r, readLineL ts wd = r := ⟨_, rfl⟩
  obtain ⟨q, hq⟩ : ∃ q, levelsFromL ts wd = q := ⟨_, rfl⟩
  have C := Lib.hid (implLevelsFrom_r (c := c) hq h hn)
  rw [hr]
  rw [hq] at hlen
  obtain ⟨lv, ok⟩ := q
  dsimp only at hlen
  cases ok with
  | true =>
    have HR := Lib.hid (hr.symm.trans (readLineL_yes hq))
    clear hr hq
    go_enter Try.func29, Try.ntmps29
    go_wp2_with (fail)
    refine C.out.mono ?_
    rintro e w1 ⟨A1, n1, c1, rfl, O1, B1⟩
    have hn1 : n1 ≤ 16777216 := by have := O1.has.len; omega
    go_wp2_with (fail)
    refine (implBitsFrom_r HR.out.symm O1.has hn1).mono ?_
    rintro e w2 ⟨A2, n2, c2, rfl, O2, B2⟩
    go_wp2
    go_ret2
    exact ⟨_, _, _, rfl, O2.mono B1.size, bel_trans B1 B2⟩
  | false =>
    have HR := Lib.hid (hr.symm.trans (readLineL_no hq))
    clear hr hq
    obtain rfl := HR.out
    go_enter Try.func29, Try.ntmps29
    go_wp2_with (fail)
    refine C.out.mono ?_
    rintro e w1 ⟨A1, n1, c1, rfl, O1, B1⟩
    go_wp2
    go_ret2
    exact ⟨_, _, _, rfl, World.ownsRow_nil _ _ _ _, B1⟩

end Go.Proofs.Ytbeebaiionlcoaa
