/-
  Chapter 12's model, the order in turn: what is proved here is what FairOrder returns, in memory of its own, and that it writes nothing that was there. Condition: lengths up to 2^24.
-/
import Derived.Test.YtpofkkenbepjpaaJobB
import Derived.Test.YtpofkkenbepjpaaMathJobC
namespace Go.Proofs.Ytpofkkenbepjpaa
open Go.RowKit

theorem first_at (p : Nat → Bool) : ∀ f i, ((List.range' i f).filter p = [] ∧ firstIx p i f = -1) ∨ ∃ x r, (List.range' i f).filter p = x :: r ∧ firstIx p i f = (x : Int) := by
  intro f
  induction f with
  | zero => intro i; exact .inl ⟨rfl, rfl⟩
  | succ f ih =>
    intro i
    rw [List.range'_succ, List.filter_cons, firstIx]
    by_cases h : p i = true
    · rw [if_pos h, if_pos h]; exact .inr ⟨i, _, rfl, rfl⟩
    · rw [if_neg h, if_neg h]; exact ih (i + 1)
theorem first_rest (js : List Duo) (dn : List Bool) (c : Nat) : (restIx js dn c = [] ∧ firstIx (nextP js dn c) 0 js.length = -1) ∨ ∃ x r, restIx js dn c = x :: r ∧ firstIx (nextP js dn c) 0 js.length = (x : Int) := by
  have := first_at (nextP js dn c) js.length 0
  rw [← List.range_eq_range'] at this
  exact this
theorem inC_le {ws : List Int} {js : List Duo} {T : List Int} {dn : List Bool} {cr : List Int} {out : List Int} {c q1 l1 : Nat} (h : InC ws js T dn cr out c q1 l1) : out.length ≤ T.length := by
  obtain ⟨_, _, _, _, _, _, _, _, f, _, h10⟩ := h
  rw [← h10, List.length_append]; omega
def lenOf : Value → Nat
  | .slice _ n _ => n
  | _ => 0

/-- The model's memory: what is done, which are done, the credits. -/
structure MemF (w wr : World) (D K n m : Nat) (A : Option Addr) (q c : Nat) (out : List Int) (dn : List Bool) (cr : List Int) : Prop where
  o : Own wr w.heap.size 3 A q c (ints .i64 out)
  d : Own wr D 4 (some ⟨D, 0, none⟩) m m (bools dn)
  k : Own wr K 3 (some ⟨K, 0, none⟩) n n (ints .i64 cr)
  ne : ∀ a, A = some a → a.block ≠ D ∧ a.block ≠ K
  b : Below w.heap.size w wr
  lo : w.heap.size < D ∧ D < K
section
variable {w wr : World} {D K n m q c : Nat} {A : Option Addr} {out : List Int} {dn : List Bool} {cr : List Int}
theorem MemF.setK (h : MemF w wr D K n m A q c out dn cr) (i : Nat) (v : Int) : MemF w (wr.setCell ⟨K, i, none⟩ (.int .i64 v)) D K n m A q c out dn (cr.set i v) := by
  have g := grown_set (World.grownBy.refl wr (some K)) i (.int .i64 v)
  have hl := h.lo
  refine ⟨h.o.grown g (fun a ha he => by injection he with he; exact (h.ne a ha).2 he), h.d.grown g (fun a ha he => by cases ha; injection he with he; have he' : D = K := he; omega), by rw [← ints_set]; exact h.k.set_ i _, h.ne, h.b.setCell (p := ⟨K, i, none⟩) (by show w.heap.size ≤ K; omega) _, hl⟩
theorem MemF.setD (h : MemF w wr D K n m A q c out dn cr) (i : Nat) (v : Bool) : MemF w (wr.setCell ⟨D, i, none⟩ (.bool v)) D K n m A q c out (dn.set i v) cr := by
  have g := grown_set (World.grownBy.refl wr (some D)) i (.bool v)
  have hl := h.lo
  refine ⟨h.o.grown g (fun a ha he => by injection he with he; exact (h.ne a ha).1 he), by rw [← bools_set]; exact h.d.set_ i _, h.k.grown g (fun a ha he => by cases ha; injection he with he; have he' : K = D := he; omega), h.ne, h.b.setCell (p := ⟨D, i, none⟩) (by show w.heap.size ≤ D; omega) _, hl⟩
theorem MemF.drew (h : MemF w wr D K n m A q c out dn cr) : MemF w wr.drew D K n m A q c out dn cr :=
  ⟨own_drewJ h.o, own_drewJ h.d, own_drewJ h.k, h.ne, h.b.drew, h.lo⟩
theorem MemF.drewN (h : MemF w wr D K n m A q c out dn cr) (x : Nat) : MemF w (wr.drewN x) D K n m A q c out dn cr :=
  ⟨h.o.bel (below_drewN _ _), h.d.bel (below_drewN _ _), h.k.bel (below_drewN _ _), h.ne, h.b.trans (below_drewN _ _), h.lo⟩
theorem MemF.app (h : MemF w wr D K n m A q c out dn cr) {g c2 : Nat} {w3 : World} {x : Int} (O : Own w3 w.heap.size 3 (some ⟨g, 0, none⟩) (q + 1) c2 (ints .i64 out ++ [.int .i64 x])) (G : wr.grownBy w3 (A.map (·.block))) (B : Below w.heap.size wr w3) (E : A.map (·.block) = some g ∨ wr.heap.size ≤ g) :
    MemF w w3 D K n m (some ⟨g, 0, none⟩) (q + 1) c2 (out ++ [x]) dn cr := by
  have hd := h.d.block.2
  have hk := h.k.block.2
  refine ⟨by rw [intsJ_app]; exact O, h.d.grown G (fun a ha he => ?_), h.k.grown G (fun a ha he => ?_), fun a ha => ?_, h.b.trans B, h.lo⟩
  · cases ha
    cases A with
    | none => cases he
    | some a => injection he with he; exact (h.ne a rfl).1 he.symm
  · cases ha
    cases A with
    | none => cases he
    | some a => injection he with he; exact (h.ne a rfl).2 he.symm
  · cases ha
    rcases E with E | E
    · cases A with
      | none => cases E
      | some a =>
        have E' : a.block = g := by injection E
        have := h.ne a rfl
        exact ⟨by show g ≠ D; rw [← E']; exact this.1, by show g ≠ K; rw [← E']; exact this.2⟩
    · exact ⟨by show g ≠ D; have : D < wr.heap.size := hd; omega, by show g ≠ K; have : K < wr.heap.size := hk; omega⟩
theorem MemF.len (h : MemF w wr D K n m A q c out dn cr) : q = out.length := by have := h.o.has.len; omega
theorem crAt_get {cr : List Int} {i : Nat} (h : i < cr.length) : (ints .i64 cr)[i]? = some (.int .i64 (crAt cr i)) := by
  apply intsJ_get
  unfold crAt
  rw [List.getD_eq_getElem?_getD, List.getElem?_eq_getElem h]; rfl
theorem MemF.cellK (h : MemF w wr D K n m A q c out dn cr) {i : Nat} (hi : i < n) : wr.cell? ⟨K, i, none⟩ = some (.int .i64 (crAt cr i)) ∧ wr.frozen? ⟨K, i, none⟩ = false := by
  obtain ⟨u, hu, hd, hf⟩ := h.k.at_ hi
  have hl : cr.length = n := h.k.has.len
  rw [crAt_get (by omega)] at hu
  injection hu with hu
  subst hu
  exact ⟨hd, hf⟩
theorem MemF.cellD (h : MemF w wr D K n m A q c out dn cr) {i : Nat} (hi : i < m) : wr.cell? ⟨D, i, none⟩ = some (.bool (dn.getD i false)) ∧ wr.frozen? ⟨D, i, none⟩ = false := by
  obtain ⟨g, hg, u0, u1⟩ := own_bool h.d hi
  injection hg with hg
  injection hg with hg
  subst hg
  exact ⟨u0, u1⟩
end

set_option maxRecDepth 100000 in
set_option maxHeartbeats 16000000 in
theorem specFairOrder_r {A B : Option Addr} {n c m d : Nat} {ws : List Int} {js : List Duo} {w : World} {r : List Int} (h : Has w A n (ints .i64 ws)) (hj : HasD w B m js) (hn : n ≤ 16777216) (hm : m ≤ 16777216) (hr : fairL ws js = r) :
    Calls Try.prog 19 #[.slice A n c, .slice B m d] w fun e w' => ∃ A' n' c', e = .returned (.slice A' n' c') ∧ Own w' w.heap.size 3 A' n' c' (ints .i64 r) ∧ Below w.heap.size w w' := by
  obtain ⟨i0, hi, hz0, hz1, hz2⟩ := info_parts Try.infoInt
  obtain ⟨j0, hji, jz0, jz1, jz2⟩ := info_parts Try.infoBool
  have HL := Lib.hid h.len
  have HJ := Lib.hid hj.1
  have E1 := lit_ownJ w
  have B0 : Below w.heap.size w (w.alloc (.cells #[] 3)) := below_allocJ w _
  by_cases hok : jobsOk ws js
  rotate_left
  · have HE := Lib.hid (show fairL ws js = [] from if_neg hok)
    have HR := Lib.hid hr
    have C := Lib.hid (specJobsValid_b (c := c) (d := d) (h.bel B0) (hj.bel B0) hn hm (decide_eq_false hok))
    clear hok hr
    go_enter Try.func19, Try.ntmps19
    go_wp2_with (fail)
    refine C.out.mono ?_
    rintro e w' ⟨rfl, rfl⟩
    go_wp2
    go_ret
    exact ⟨_, _, _, rfl, by rw [← HR.out, HE.out]; exact E1, B0⟩
  have HK := Lib.hid hok
  have HTL := Lib.hid (show r.length = m by rw [← hr, fair_len hok]; exact hj.1)
  have HA0 := Lib.hid (show AtC ws js r (List.replicate m false) (List.replicate n 0) [] 0 by rw [← hr]; have := atC_start hok; rw [HJ.out, HL.out] at this; exact this)
  have hm60 : m ≤ 60 := by have := hok.2.2; have := HJ.out; omega
  have hn4 : n ≤ 4 := by have := hok.2.1.2.2; have := HL.out; omega
  have C := Lib.hid (specJobsValid_b (c := c) (d := d) (h.bel B0) (hj.bel B0) hn hm (decide_eq_true hok))
  clear hok hr
  go_enter Try.func19, Try.ntmps19
  go_wp2_with (fail)
  refine C.out.mono ?_
  rintro e w' ⟨rfl, rfl⟩
  obtain ⟨W0, hW0⟩ : ∃ W0, w.alloc (.cells #[] 3) = W0 := ⟨_, rfl⟩
  rw [hW0] at E1 B0 ⊢
  have s0 := Lib.hid (show W0.heap.size = w.heap.size + 1 by rw [← hW0]; simp)
  clear hW0 C
  go_wp2_with (first | (at_make; refine wpList_make_full _ rfl _ _ 69 rfl W0.heap.size 4 j0 (.bool false) 1 Try.underlying69 hji jz0 jz1 .i64 .i64 _ _ m rfl rfl (by omega) (by omega) (by rw [jz2]; omega) (by unfold maxLen; omega) (Nat.le_refl _) ?_; intro w1 hown hgrow; rw [made_boolsJ] at hown; have P1 : Own w1 W0.heap.size 4 (some ⟨W0.heap.size, 0, none⟩) m m (bools (List.replicate m false)) := hown; have B1 : Below W0.heap.size W0 w1 := below_of_grown hgrow (Nat.le_refl _) (fun k hk => by cases hk); have s1 : W0.heap.size < w1.heap.size := P1.block.2; clear hown hgrow) | (at_make; refine wpList_make_full _ rfl _ _ 23 rfl w1.heap.size 3 i0 (.int .i64 0) 1 Try.underlying23 hi hz0 hz1 .i64 .i64 _ _ n rfl rfl (by omega) (by omega) (by rw [hz2]; omega) (by unfold maxLen; omega) (Nat.le_refl _) ?_; intro w2 hown hgrow; rw [made_intsJ] at hown; have K2 : Own w2 w1.heap.size 3 (some ⟨w1.heap.size, 0, none⟩) n n (ints .i64 (List.replicate n 0)) := hown; have B2 : Below w1.heap.size w1 w2 := below_of_grown hgrow (Nat.le_refl _) (fun k hk => by cases hk); clear hown hgrow))
  have M2 : MemF w w2 W0.heap.size w1.heap.size n m (some ⟨w.heap.size, 0, none⟩) 0 0 [] (List.replicate m false) (List.replicate n 0) :=
    ⟨(E1.bel B1).bel B2, P1.bel B2, K2, fun a ha => by cases ha; exact ⟨by show w.heap.size ≠ W0.heap.size; have := s0.out; omega, by show w.heap.size ≠ w1.heap.size; have := s0.out; omega⟩, bel_trans B0 (bel_trans B1 B2), by have := s0.out; omega, s1⟩
  obtain ⟨D, hD⟩ : ∃ D, W0.heap.size = D := ⟨_, rfl⟩
  obtain ⟨K, hK⟩ : ∃ K, w1.heap.size = K := ⟨_, rfl⟩
  rw [hD, hK] at M2
  rw [hD, hK]
  clear E1 B0 P1 B1 K2 B2 s0 s1 hD hK
  go_loopw [5] (fun v wr => ∃ (q : Nat) (A' : Option Addr) (c' : Nat) (out : List Int) (dn : List Bool) (cr : List Int), v = .slice A' q c' ∧ Hid (AtC ws js r dn cr out 0) ∧ MemF w wr D K n m A' q c' out dn cr) (fun v _ => m - lenOf v)
  case atStart => exact ⟨0, _, _, _, _, _, rfl, HA0, M2⟩
  case round =>
    clear M2 HA0
    obtain ⟨q, A1, c1, out, dn, cr, rfl, HA, M⟩ := hrel
    by_cases hlt : q < m
    rotate_left
    · have hltB : decide ((q : Int) < (m : Int)) = false := by simp; omega
      have HE := Lib.hid (atC_full HA.out (by rw [HTL.out]; have := M.len; omega))
      have O := M.o
      have B9 := M.b
      rw [HE.out] at O
      go_wp2
      go_ret
      exact ⟨_, _, _, rfl, O, B9⟩
    have hltB : decide ((q : Int) < (m : Int)) = true := by simp; omega
    go_wp2
    generalize hwb : wr = wb at *; clear hwb
    go_loopw [5, 8] (fun v t wr => ∃ (cl q2 : Nat) (A' : Option Addr) (c' : Nat) (out : List Int) (dn : List Bool) (cr : List Int), cl ≤ n ∧ t = .int .i64 (cl : Int) ∧ v = .slice A' q2 c' ∧ Hid (AtC ws js r dn cr out cl) ∧ Hid (q ≤ q2 ∧ (q < q2 ∨ noneTo js dn cl)) ∧ MemF w wr D K n m A' q2 c' out dn cr) (fun _ t _ => n - (intOf t).toNat)
    case atStart =>
      have : Hid (q ≤ q ∧ (q < q ∨ noneTo js dn 0)) := ⟨Nat.le_refl _, .inr (fun c' h => absurd h (by omega))⟩
      exact ⟨0, q, _, _, _, _, _, Nat.zero_le _, rfl, rfl, HA, this, M⟩
    case round =>
      clear M HA out dn cr
      obtain ⟨cl, q2, A2, c2, out, dn, cr, hcl, rfl, rfl, HA, HQ, M⟩ := hrel
      by_cases hct : cl < n
      rotate_left
      · have hctB : decide ((cl : Int) < (n : Int)) = false := by simp; omega
        obtain rfl : cl = n := by omega
        have HA2 : Hid (AtC ws js r dn cr out 0) := by
          have h1 := HA.out
          rw [← HL.out] at h1
          exact atC_round h1
        have hq2 : q < q2 := by
          rcases HQ.out.2 with h1 | h1
          · exact h1
          · have h2 := HA.out
            rw [← HL.out] at h2 h1
            have h3 := none_all h2 h1
            have h4 := M.len
            have h5 := HTL.out
            omega
        clear HA HQ
        go_wp2
        go_roundw
        case rel => exact ⟨q2, _, _, _, _, _, rfl, HA2, M⟩
        case measure => simp [lenOf]; omega
      have hctB : decide ((cl : Int) < (n : Int)) = true := by simp; omega
      have cl0 : (0 : Int) ≤ (cl : Int) := by omega
      have cl1 : (cl : Int) < (n : Int) := by omega
      have hctL : cl < ws.length := by rw [HL.out]; exact hct
      have CN := Lib.hid (l12Next_r (c := d) (d := m) (cl := cl) (hj.bel M.b) M.d.has hm rfl)
      have HF := Lib.hid (first_rest js dn cl)
      rw [HJ.out] at HF
      generalize hfx : firstIx (nextP js dn cl) 0 m = fx at CN HF
      rcases HF.out with ⟨hr0, hfe⟩ | ⟨i, rs, hr0, hfe⟩
      · have fB : decide (fx < 0) = true := by rw [hfe]; decide
        have HA2 : Hid (AtC ws js r dn cr out (cl + 1)) := atC_pass HA.out hctL hr0
        have HQ2 : Hid (q ≤ q2 ∧ (q < q2 ∨ noneTo js dn (cl + 1))) := ⟨HQ.out.1, HQ.out.2.imp id (fun hh c' hc' => by
          by_cases e : c' = cl
          · rw [e]; exact hr0
          · exact hh c' (by omega))⟩
        clear hr0 hfe HA HQ HF hfx
        go_wp2_with (fail)
        refine CN.out.mono ?_
        rintro e w' ⟨rfl, rfl⟩
        go_wp2
        go_roundw
        case rel => exact ⟨cl + 1, q2, _, _, _, _, _, by omega, by go_num, rfl, HA2, HQ2, M⟩
        case measure => simp [intOf]; omega
      have fB : decide (fx < 0) = false := by rw [hfe]; simp
      obtain ⟨HS1, HS2⟩ := inC_start HA.out HK.out.2.1 hctL (by rw [hr0]; simp)
      have HI := Lib.hid HS1
      obtain ⟨xk0, xk1⟩ := M.cellK hct
      obtain ⟨b2, o2, rfl, hbl2, e0⟩ := has_dw (h.bel M.b) hct
      have hdw := dw_ok HK.out.2.1 hctL
      have M3 := (M.setK cl (crAt cr cl + 9 * dw ws cl)).drew
      have w9 : IntKind.i64.wrap (9 * dw ws cl) = 9 * dw ws cl := IntWalk.i64_in _ (by omega)
      have w10 : IntKind.i64.wrap (crAt cr cl + 9 * dw ws cl) = crAt cr cl + 9 * dw ws cl := IntWalk.i64_in _ (by omega)
      have n1 : -9223372036854775808 ≤ 9 * dw ws cl := by omega
      have n2 : 9 * dw ws cl ≤ 9223372036854775807 := by omega
      have n3 : -9223372036854775808 ≤ crAt cr cl + 9 * dw ws cl := by omega
      have n4 : crAt cr cl + 9 * dw ws cl ≤ 9223372036854775807 := by omega
      have HFX := Lib.hid hfx
      have hq1 := M.len
      have HQ1 := Lib.hid HQ.out.1
      generalize hcv : crAt cr cl = cv at *
      generalize hwv : dw ws cl = wv at *
      clear hfx hr0 hfe HA HQ HF HS1 HS2
      go_wp2_with (fail)
      refine CN.out.mono ?_
      rintro e w' ⟨rfl, rfl⟩
      go_wp2
      go_region
      generalize hwx : (wr.setCell ⟨K, cl, none⟩ (.int .i64 (cv + 9 * wv))).drew = wx at *
      clear hwx M CN hwv
      subst hq1
      have HQ2 := Lib.hid HQ1.out
      generalize (restIx js dn cl).length = l1 at *
      generalize out.length = qs at *
      go_wp2
      go_loopw [5, 9] (fun v t wr => ∃ (q3 : Nat) (A' : Option Addr) (c' : Nat) (out2 : List Int) (dn : List Bool) (cr : List Int), t = .int .i64 (firstIx (nextP js dn cl) 0 m) ∧ v = .slice A' q3 c' ∧ Hid (InC ws js r dn cr out2 cl qs l1) ∧ MemF w wr D K n m A' q3 c' out2 dn cr) (fun v _ _ => m - lenOf v)
      case atStart => exact ⟨_, _, _, _, _, _, by rw [HFX.out], rfl, HI, M3⟩
      case round =>
        clear M3 HI HFX HQ1 hcv n1 n2 n3 n4 w9 w10 xk0 xk1 e0 hbl2 fB
        clear dn cr
        obtain ⟨q3, A3, c3, out2, dn, cr, rfl, rfl, HI, M⟩ := hrel
        have HQL := Lib.hid M.len
        have HF := Lib.hid (first_rest js dn cl)
        rw [HJ.out] at HF
        obtain ⟨xk0, xk1⟩ := M.cellK hct
        generalize hfx : firstIx (nextP js dn cl) 0 m = fx at HF
        rcases HF.out with ⟨hr0, hfe⟩ | ⟨i, rs, hr0, hfe⟩
        · have fB : decide (fx < 0) = true := by rw [hfe]; decide
          have fC : decide (fx ≥ 0) = false := by rw [hfe]; decide
          have fD : decide (0 ≤ fx) = false := by rw [hfe]; decide
          obtain ⟨ha1, ha2⟩ := inC_empty HI.out hr0
          have HA2 := Lib.hid ha1
          have HQ3 : Hid (q ≤ q3 ∧ (q < q3 ∨ noneTo js dn (cl + 1))) := by
            have : q ≤ q3 ∧ (q < q3 ∨ noneTo js dn (cl + 1)) := ⟨by have := HQ2.out; have := HQL.out; omega, .inl (by have := HQ2.out; have := HQL.out; omega)⟩
            exact this
          clear hr0 hfe HF hfx ha1 ha2 HI xk0 xk1
          go_wp2
          go_quiet (fail)
          generalize hwy : World.drewN wr _ = wy
          have M2 : MemF w wy D K n m A3 q3 c3 out2 dn cr := hwy ▸ M.drewN _
          obtain ⟨xk0, xk1⟩ := M2.cellK hct
          have M3 := M2.setK cl 0
          clear hwy M M2
          go_wp2
          go_roundw
          case rel => exact ⟨cl + 1, q3, _, _, _, _, _, by omega, by go_num, rfl, HA2, HQ3, M3⟩
          case measure => simp [intOf]; omega
        subst hfe
        have fB : decide ((i : Int) < 0) = false := by simp
        have fC : decide ((i : Int) ≥ 0) = true := by simp
        have fD : decide (0 ≤ (i : Int)) = true := by simp
        obtain ⟨him, hcls, _⟩ := restIx_mem (i := i) (c := cl) (dn := dn) (js := js) (by rw [hr0]; simp)
        have hsz := (dj_ok HK.out him).2.2
        rw [HJ.out] at him
        obtain ⟨b3, o3, rfl, hbl3, d0, d1⟩ := (hj.bel M.b).row him
        have hcb := HI.out.2.2.2.1
        by_cases hle : (dj js i).2 ≤ crAt cr cl
        rotate_left
        · have lB : decide ((dj js i).2 ≤ crAt cr cl) = false := decide_eq_false hle
          obtain ⟨ha1, ha2⟩ := inC_stop HI.out HK.out.2.1 hctL hr0 hle (fun x hx => (dj_ok HK.out hx).2.2)
          have HA2 := Lib.hid ha1
          have HQ3 : Hid (q ≤ q3 ∧ (q < q3 ∨ noneTo js dn (cl + 1))) := by
            have : q ≤ q3 ∧ (q < q3 ∨ noneTo js dn (cl + 1)) := ⟨by have := HQ2.out; have := HQL.out; omega, .inl (by have := HQ2.out; have := HQL.out; omega)⟩
            exact this
          clear hr0 HF hfx ha1 ha2 HI hle hcls
          generalize (dj js i).2 = t at *
          generalize crAt cr cl = kv at *
          go_wp2
          go_quiet (fail)
          generalize hwy : World.drewN wr _ = wy
          have M2 : MemF w wy D K n m A3 q3 c3 out2 dn cr := hwy ▸ M.drewN _
          clear hwy M
          go_wp2
          go_roundw
          case rel => exact ⟨cl + 1, q3, _, _, _, _, _, by omega, by go_num, rfl, HA2, HQ3, M2⟩
          case measure => simp [intOf]; omega
        have lB : decide ((dj js i).2 ≤ crAt cr cl) = true := decide_eq_true hle
        have hdo := inC_do HI.out hctL hr0 hle hsz
        have hle2 := inC_le hdo
        rw [List.length_append, HTL.out] at hle2
        simp only [List.length_cons, List.length_nil] at hle2
        rw [← HQL.out] at hle2
        have HI2 := Lib.hid hdo
        have i0n : (0 : Int) ≤ (i : Int) := by omega
        have i1n : (i : Int) < (m : Int) := by omega
        generalize hdt : (dj js i).2 = t at *
        generalize hkv : crAt cr cl = kv at *
        have wS : IntKind.i64.wrap (kv - t) = kv - t := IntWalk.i64_in _ (by omega)
        have n1 : -9223372036854775808 ≤ kv - t := by omega
        have n2 : kv - t ≤ 9223372036854775807 := by omega
        clear hr0 HF hfx HI hle hcls hdo
        go_wp2
        go_quiet (fail)
        generalize hwy : World.drewN wr _ = wy
        have M2 : MemF w wy D K n m A3 q3 c3 out2 dn cr := hwy ▸ M.drewN _
        clear hwy M xk0 xk1 d0 d1
        obtain ⟨b4, o4, hbo, hbl4, d0, d1⟩ := (hj.bel M2.b).row him
        injection hbo with hbo
        injection hbo with hb4 ho4
        subst hb4 ho4
        obtain ⟨xk0, xk1⟩ := M2.cellK hct
        have M3 := (M2.setK cl (kv - t)).drew
        rw [hdt] at d1
        rw [hkv] at xk0
        go_wp2
        go_region
        generalize hwz : (wy.setCell ⟨K, cl, none⟩ (.int .i64 (kv - t))).drew = wz at *
        clear hwz M2 xk0 xk1 d0 d1 hbl3 hbl4
        obtain ⟨xd0, xd1⟩ := M3.cellD him
        have M4 := M3.setD i true
        have HSZ := Lib.hid (show (wz.setCell ⟨D, i, none⟩ (.bool true)).heap.size = wz.heap.size by simp)
        go_wp2_with (at_builtin; refine wpList_apps _ rfl (.tmp 82) (.tmp 84) 23 rfl w.heap.size 3 i0 (.int .i64 0) 8 Try.underlying23 hi hz0 hz1 hz2 rfl A3 q3 c3 _ rfl M4.o 1 1 #[.int .i64 (i : Int)] (by rw [HSZ.out]; rfl) rfl (by simp [Value.oneCell']) (by decide) (by omega) (by decide) M4.b.size ?_; intro g5 c5 w5 O5 G5 B5 E5; have M5 := M4.app O5 G5 B5 E5; clear O5 G5 B5 E5)
        refine (l12Next_r (c := d) (d := m) (cl := cl) (hj.bel M5.b) M5.d.has hm rfl).mono ?_
        rintro e w' ⟨rfl, rfl⟩
        go_wp2
        go_roundw
        case rel => exact ⟨q3 + 1, _, _, _, _, _, rfl, rfl, HI2, M5⟩
        case measure => simp [lenOf]; omega
end Go.Proofs.Ytpofkkenbepjpaa
