/-
  Chapter 15's program, stretches: what is proved here is what stretchesOf returns, and that it writes nothing that was there. Condition: lengths up to 40.
-/
import Derived.Test.YtmifhkhanjiklaaImp15f
namespace Go.Proofs.Ytmifhkhanjiklaa
open Go.RowKit

/-- The stretches of the first k events, as the loop keeps them. -/
def StSt (E C : List Duo) (k : Nat) (x : Int) : Prop := StTo (E.take k) C ∧ totE (E.take k) = x
theorem stst_zero (E : List Duo) : StSt E [] 0 0 := ⟨st_nil, rfl⟩
theorem take_snoc15 {E : List Duo} {k : Nat} {e : Duo} (h : E[k]? = some e) : E.take (k + 1) = E.take k ++ [e] := by rw [List.take_add_one, h]; rfl
theorem sorted_le {E : List Duo} (h : E.Pairwise (fun a b => a.1 ≤ b.1)) {k : Nat} {e : Duo} (he : E[k]? = some e) : ∀ x ∈ E.take k, x.1 ≤ e.1 := by
  intro x hx
  obtain ⟨i, hi⟩ := List.getElem?_of_mem hx
  have hik : i < k := by
    have := (List.getElem?_eq_some_iff.1 hi).1
    rw [List.length_take] at this; omega
  rw [List.getElem?_take_of_lt hik] at hi
  obtain ⟨h1, e1⟩ := List.getElem?_eq_some_iff.1 hi
  obtain ⟨h2, e2⟩ := List.getElem?_eq_some_iff.1 he
  rw [← e1, ← e2]
  exact List.pairwise_iff_getElem.1 h i k h1 h2 hik
theorem stst_app {E C : List Duo} {k : Nat} {x y : Int} {e : Duo} (h : StSt E C k x) (hs : E.Pairwise (fun a b => a.1 ≤ b.1)) (he : E[k]? = some e) (hy : x + e.2 = y) (hl : C = [] ∨ ∃ m, m + 1 = C.length ∧ (dj C m).1 ≠ e.1) :
    StSt E (C ++ [(e.1, y)]) (k + 1) y := by
  obtain ⟨h1, h2⟩ := h
  have hle := sorted_le hs he
  have ht : totE (E.take k ++ [e]) = y := by rw [tot_app, h2, hy]
  unfold StSt
  rw [take_snoc15 he]
  refine ⟨?_, ht⟩
  have h3 := st_new h1 hle (fun f hf => by
    rcases hl with hl | ⟨m, hm, hne⟩
    · rw [hl] at hf; cases hf
    · intro hfe
      obtain ⟨i, hi⟩ := List.getElem?_of_mem hf
      have hil := (List.getElem?_eq_some_iff.1 hi).1
      by_cases e1 : i = m
      · subst e1; rw [dj_atT hi] at hne; exact hne hfe
      · have h4 := asc_at h1.1 (show i < m by omega) (by omega)
        rw [dj_atT hi] at h4
        obtain ⟨z, hz, ez⟩ := h1.2.2.2 _ (dj_memT (js := C) (i := m) (by omega))
        have := hle z hz
        omega)
  rw [ht] at h3
  exact h3
theorem stst_same {E C : List Duo} {k m : Nat} {x y : Int} {e : Duo} (h : StSt E C k x) (hs : E.Pairwise (fun a b => a.1 ≤ b.1)) (he : E[k]? = some e) (hy : x + e.2 = y) (hm : m + 1 = C.length) (heq : (dj C m).1 = e.1) :
    StSt E (C.set m ((dj C m).1, y)) (k + 1) y := by
  obtain ⟨h1, h2⟩ := h
  have hle := sorted_le hs he
  have ht : totE (E.take k ++ [e]) = y := by rw [tot_app, h2, hy]
  have hC : C = C.take m ++ [(e.1, (dj C m).2)] := by
    conv => lhs; rw [← List.take_length (l := C), ← hm, List.take_add_one, dj_someT (js := C) (i := m) (by omega)]
    rw [← heq]; rfl
  have hset : C.set m ((dj C m).1, y) = C.take m ++ [(e.1, y)] := by
    rw [heq]
    conv => lhs; rw [hC]
    rw [List.set_append_right _ _ (by rw [List.length_take]; omega)]
    rw [List.length_take, show min m C.length = m by omega, Nat.sub_self]
    rfl
  unfold StSt
  rw [take_snoc15 he, hset]
  refine ⟨?_, ht⟩
  rw [hC] at h1
  have h3 := st_same h1 hle
  rw [ht] at h3
  exact h3
/-- What stretches are handed back. -/
def StrOk (L C : List Duo) : Prop := ascS C ∧ difS C ∧ (∀ n, evS 0 C n = (cntS L n : Int)) ∧ (∀ x ∈ C, -4000000 ≤ x.1 ∧ x.1 ≤ 4000001) ∧ C.length ≤ 80
theorem stst_all {L E C : List Duo} {k : Nat} {x : Int} (hok : ∀ s ∈ L, spOk s) (hp : E.Perm (evsOf L)) (hk : E.length = k) (hl : L.length ≤ 40) (hcl : C.length ≤ k) (h : StSt E C k x) : StrOk L (compS C) := by
  obtain ⟨h1, _⟩ := h
  rw [← hk, List.take_length] at h1
  obtain ⟨c1, c2, c3, c4⟩ := compS_ok h1.1
  refine ⟨c1, c3, fun n => ?_, fun z hz => ?_, ?_⟩
  · rw [c2, st_ev h1, cumE_perm hp, cum_cnt hok]
  · obtain ⟨e, he, ee⟩ := h1.2.2.2 z (c4 z hz)
    have := (evs_mem hok e (hp.mem_iff.1 he)).1
    omega
  · have e1 : k = 2 * L.length := by rw [← hk, hp.length_eq, evs_len]
    have e2 : (compS C).length ≤ C.length := by
      have gen : ∀ (p : Int) (r : List Duo), (compF p r).length ≤ r.length := by
        intro p r
        induction r generalizing p with
        | nil => exact Nat.le_refl _
        | cons y r ih =>
          unfold compF
          split
          · have := ih p; simp only [List.length_cons]; omega
          · have := ih y.2; simp only [List.length_cons]; omega
      cases C with
      | nil => exact Nat.le_refl _
      | cons y r => have := gen y.2 r; simp only [compS, List.length_cons]; omega
    omega

theorem Try.infoSt : (Try.prog.info? 84).map (fun i => (i.zero, i.size, i.bytes)) = some (some (.agg #[.int .i64 0, .int .i64 0]), 2, 16) := by kernel_rfl
set_option maxRecDepth 100000 in
set_option maxHeartbeats 8000000 in
theorem stretchesOf_any {A : Option Addr} {n c : Nat} {L : List Duo} {w : World} (h : HasD w A n L) (hn : n ≤ 40) (hp : 0 < n) (hok : ∀ s ∈ L, spOk s) :
    Calls Try.prog 63 #[.slice A n c] w fun e w' => ∃ g m c' C, e = .returned (.slice (some ⟨g, 0, none⟩) m c') ∧ OwnD w' w.heap.size 84 (some ⟨g, 0, none⟩) m c' C ∧ StrOk L C ∧ Below w.heap.size w w' := by
  obtain ⟨j0, hji, jz0, jz1, jz2⟩ := info_partsD Try.infoSt
  have HL := Lib.hid h.1
  have HOK := Lib.hid hok
  have CE := Lib.hid (spanEvents_any (c := c) h hn hp hok)
  clear hok
  go_enter Try.func63, Try.ntmps63
  go_wp2_with (fail)
  refine CE.out.mono ?_
  rintro e w2 ⟨ge, ce, E, rfl, OE, hE1, hE2, BE⟩
  have HP := Lib.hid hE1
  have HS := Lib.hid hE2
  have HEL := Lib.hid OE.len
  have sE := BE.size
  obtain ⟨n2, hn2⟩ : ∃ m, 2 * n = m := ⟨_, rfl⟩
  rw [hn2] at OE HEL
  have hb2 : n2 ≤ 80 := by omega
  have hb3 : 0 < n2 := by omega
  have e2 : (2 : Int) * (n : Int) = (n2 : Int) := by omega
  rw [hn2]
  clear hE1 hE2 CE h hn2 e2
  go_wp2
  go_loopw [3, 4, 11] (fun v a i wr => ∃ (k : Nat) (B : Option Addr) (m c' : Nat) (C : List Duo) (x : Int), k ≤ n2 ∧ i = .int .i64 (k : Int) ∧ a = .int .i64 x ∧ v = .slice B m c' ∧ (0 < k → 0 < m) ∧ m ≤ k ∧ (-(k : Int) ≤ x ∧ x ≤ (k : Int)) ∧ Hid (StSt E C k x) ∧ OwnD wr w2.heap.size 84 B m c' C ∧ Below w2.heap.size w2 wr) (fun _ _ i _ => n2 - (intOf i).toNat)
  case atStart =>
    have h1 : Hid (StSt E [] 0 0) := stst_zero E
    exact ⟨0, none, 0, 0, [], 0, Nat.zero_le _, rfl, rfl, rfl, (fun hh => by omega), Nat.le_refl _, by omega, h1, World.ownsRow_nil _ _ _ _, Below.refl _ _⟩
  case round =>
    obtain ⟨k, B, m, c', C, x, hk, rfl, rfl, rfl, hkm, hmk, hxb, HC, O, BW⟩ := hrel
    have sW := BW.size
    by_cases hlt : k < n2
    · have hltB : decide ((k : Int) < (n2 : Int)) = true := by simp; omega
      have HE := (OE.bel BW).has
      obtain ⟨bb, o, f, t, hA, hbl, he, c0, c1⟩ := HE.at_ hlt
      injection hA with hA
      injection hA with a1 a2
      subst a1 a2
      simp only [Nat.zero_add] at c0 c1
      have hev := evs_mem HOK.out _ (HP.out.mem_iff.1 (List.mem_of_getElem? he))
      dsimp only at hev
      obtain ⟨hfb, htb⟩ := hev
      have htb2 : -1 ≤ t ∧ t ≤ 1 := by omega
      obtain ⟨y, hy⟩ : ∃ y, x + t = y := ⟨_, rfl⟩
      have hyb : -((k + 1 : Nat) : Int) ≤ y ∧ y ≤ ((k + 1 : Nat) : Int) := by omega
      have wy : IntKind.i64.wrap (x + t) = y := by rw [hy]; exact IntWalk.i64_in _ (by omega)
      have HY := Lib.hid hy
      have HEK := Lib.hid he
      obtain ⟨w3, hw3⟩ : ∃ w3, wr.alloc (.cells #[.int .i64 f, .int .i64 t] 97) = w3 := ⟨_, rfl⟩
      have B3 : Below wr.heap.size wr w3 := hw3 ▸ below_allocQ wr _
      have K3 : DRow w3 wr.heap.size 97 f t := hw3 ▸ dRow_alloc wr _ f t
      obtain ⟨x0, x1⟩ := K3.cells
      have O3 := O.bel B3
      have BW3 := BW.trans (B3.mono sW)
      have s3 := BW3.size
      have hCl := O.len
      have HM := Lib.hid hCl
      cases m with
      | zero =>
        have hC0 : C = [] := List.eq_nil_of_length_eq_zero hCl
        have HST : Hid (StSt E (C ++ [(f, y)]) (k + 1) y) := stst_app HC.out HS.out he hy (Or.inl hC0)
        have m0 : ((0 : Nat) : Int) - 1 = -1 := rfl
        clear htb hy he hC0 hCl O BW B3 K3 HE hkm
        go_wp2
        go_quiet (fail)
        generalize hw4 : World.drewN _ _ = w4
        have O4 : OwnD w4 w2.heap.size 84 B 0 c' C := hw4 ▸ O3.bel (below_drewN _ _)
        have BW4 : Below w2.heap.size w2 w4 := hw4 ▸ BW3.trans (below_drewN _ _)
        have y0 : w4.cell? ⟨wr.heap.size, 0, none⟩ = some (.int .i64 f) := hw4 ▸ x0
        have s4 := BW4.size
        clear hw4
        go_wp2_with (at_builtin; refine wpList_appDm _ rfl (.tmp 39) (.tmp 44) 81 rfl w2.heap.size 84 j0 (.agg #[.int .i64 0, .int .i64 0]) 16 Try.underlying81 hji jz0 jz1 jz2 rfl B 0 c' C [(f, y)] _ rfl 1 rfl rfl O4 1 rfl (by omega) (by decide) s4 (by omega) ?_; intro g5 c5 w5 O5 G5)
        have BW5 : Below w2.heap.size w2 w5 := BW4.trans (below_of_grown G5 s4 (fun j hj => (World.ownsRow.lt O4 j (by rw [← hj]; cases B <;> rfl)).1))
        go_roundw
        case rel => exact ⟨k + 1, _, 0 + 1, c5, _, y, by omega, by go_num, rfl, by go_num, (fun _ => by omega), by omega, hyb, HST, O5, BW5⟩
        case measure => simp [intOf]; omega
      | succ j =>
        have ek : ((j + 1 : Nat) : Int) = (j : Int) + 1 := by omega
        have wj : IntKind.i64.wrap ((j : Int) + 1 - 1) = (j : Int) := by rw [show (j : Int) + 1 - 1 = (j : Int) by omega]; exact IntWalk.i64_in _ (by omega)
        have j1 : (j : Int) < (j : Int) + 1 := by omega
        have j2 : decide ((j : Int) ≥ 0) = true := by simp
        have j3 : decide ((0 : Int) ≤ (j : Int)) = true := by simp
        obtain ⟨g, cap, hv, _, _⟩ := World.ownsRow.form O3 (by omega)
        injection hv with hA _ hcap
        subst hA hcap
        obtain ⟨⟨l0, l1⟩, hx, d0, d1⟩ := O3.cells (i := j) (by omega)
        dsimp only at d0 d1
        have hdj := dj_atT hx
        have HXX := Lib.hid hx
        by_cases hl : l0 = f
        · have q1 : (l0 == f) = true := by simp [hl]
          have HST : Hid (StSt E (C.set j (l0, y)) (k + 1) y) := by
            have := stst_same HC.out HS.out he hy (m := j) (by omega) (by rw [hdj]; exact hl)
            rw [hdj] at this
            exact this
          clear htb hy he hCl O BW B3 K3 HE hkm hx hdj hl
          go_wp2
          go_quiet (fail)
          generalize hw4 : World.drewN _ _ = w4
          have O4 : OwnD w4 w2.heap.size 84 (some ⟨g, 0, none⟩) (j + 1) c' C := hw4 ▸ O3.bel (below_drewN _ _)
          have BW4 : Below w2.heap.size w2 w4 := hw4 ▸ BW3.trans (below_drewN _ _)
          have s4 := BW4.size
          clear hw4 O3 d0 d1
          obtain ⟨z, _, d0, d1⟩ := O4.cells (i := j) (by omega)
          have fz : ∀ i, w4.frozen? ⟨g, i, none⟩ = false := World.ownsRow.frozenAt O4
          obtain ⟨O5, G5⟩ := O4.put1 HXX.out y
          have hgl := (World.ownsRow.lt O4 g rfl).1
          have BW5 := BW4.trans (below_of_grown G5 s4 (fun i hi => by injection hi with hi; omega))
          clear O4 G5 BW4
          go_wp2
          go_roundw
          case rel => exact ⟨k + 1, _, j + 1, c', _, y, by omega, by go_num, rfl, by go_num, (fun _ => by omega), by omega, hyb, HST, O5, BW5⟩
          case measure => simp [intOf]; omega
        · have q1 : (l0 == f) = false := by simp [hl]
          have HST : Hid (StSt E (C ++ [(f, y)]) (k + 1) y) := stst_app HC.out HS.out he hy (Or.inr ⟨j, by omega, by rw [hdj]; exact hl⟩)
          clear htb hy he hCl O BW B3 K3 HE hkm hx hdj hl
          go_wp2
          go_quiet (fail)
          generalize hw4 : World.drewN _ _ = w4
          have O4 : OwnD w4 w2.heap.size 84 (some ⟨g, 0, none⟩) (j + 1) c' C := hw4 ▸ O3.bel (below_drewN _ _)
          have BW4 : Below w2.heap.size w2 w4 := hw4 ▸ BW3.trans (below_drewN _ _)
          have y0 : w4.cell? ⟨wr.heap.size, 0, none⟩ = some (.int .i64 f) := hw4 ▸ x0
          have s4 := BW4.size
          clear hw4 O3 d0 d1
          go_wp2_with (at_builtin; refine wpList_appDm _ rfl (.tmp 39) (.tmp 44) 81 rfl w2.heap.size 84 j0 (.agg #[.int .i64 0, .int .i64 0]) 16 Try.underlying81 hji jz0 jz1 jz2 rfl (some ⟨g, 0, none⟩) (j + 1) c' C [(f, y)] _ rfl 1 rfl rfl O4 1 rfl (by omega) (by decide) s4 (by omega) ?_; intro g5 c5 w5 O5 G5)
          have BW5 : Below w2.heap.size w2 w5 := BW4.trans (below_of_grown G5 s4 (fun j hj => (World.ownsRow.lt O4 j (by rw [← hj]; cases (some (⟨g, 0, none⟩ : Addr)) <;> rfl)).1))
          go_roundw
          case rel => exact ⟨k + 1, _, (j + 1) + 1, c5, _, y, by omega, by go_num, rfl, by go_num, (fun _ => by omega), by omega, hyb, HST, O5, BW5⟩
          case measure => simp [intOf]; omega
    · have hltB : decide ((k : Int) < (n2 : Int)) = false := by simp; omega
      obtain rfl : k = n2 := by omega
      have hm := hkm hb3
      obtain ⟨g, cap, hv, _, _⟩ := World.ownsRow.form O hm
      injection hv with hA _ hcap
      subst hA hcap
      have CC := Lib.hid (compact_any O (by omega) hm)
      have HOKC := Lib.hid (stst_all HOK.out HP.out HEL.out (by have := HL.out; omega) (by have := O.len; omega) HC.out)
      have hgl := (World.ownsRow.lt O g rfl).1
      clear O
      go_wp2_with (fail)
      refine CC.out.mono ?_
      rintro e w5 ⟨m', rfl, O5, G5⟩
      have B5 := BW.trans (below_of_grown G5 sW (fun i hi => by injection hi with hi; omega))
      have B6 := bel_trans BE B5
      have O6 := OwnD.mono O5 sE
      go_wp2
      go_ret
      exact ⟨g, m', c', _, rfl, O6, HOKC.out, B6⟩
end Go.Proofs.Ytmifhkhanjiklaa
