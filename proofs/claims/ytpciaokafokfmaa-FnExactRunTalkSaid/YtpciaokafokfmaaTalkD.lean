/-
  Chapter 9's model, stations that send when they like, a slot: what is proved here is what the model's slot leaves in memory, and that nothing that was there before the run is written. Condition: at most 6 stations, at most 2000 slots.
-/
import Derived.Test.YtpciaokafokfmaaTalkC
namespace Go.Proofs.Ytpciaokafokfmaa
open Go.RowKit

def nowI (ts : List Tk) : List Int := (sendersF 0 ts).map fun (k : Nat) => (k : Int)
theorem nowI_len (ts : List Tk) : (nowI ts).length = (sendersF 0 ts).length := by simp [nowI]
theorem nowI_step {ts : List Tk} {k : Nat} {x : Tk} (h : ts[k]? = some x) : nowI (ts.take (k + 1)) = nowI (ts.take k) ++ (if sendsT x then [(k : Int)] else []) := by
  unfold nowI
  rw [sendersF_snoc ts 0 k x h, List.map_append, Nat.zero_add]
  split <;> rfl
theorem take_of_len {ts : List Tk} {k : Nat} (h : ts.length = k) : ts.take k = ts := List.take_of_length_le (by omega)
theorem decF_go {k : Nat} {os v : List Int} (h : k < os.length) : decF k (os.drop k) v = decF (k + 1) (os.drop (k + 1)) (if 0 < gq os k then v.set k (gq v k - 1) else v) := by
  rw [List.drop_eq_getElem_cons h, decF]
  have : gq os k = os[k] := by simp [gq, h]
  rw [this]
theorem decF_end {k : Nat} {os v : List Int} (h : os.length ≤ k) : decF k (os.drop k) v = v := by rw [List.drop_of_length_le h]; rfl
theorem hitF_go {i k : Nat} {ks : List Nat} {w t d : List Int} (h : ks[i]? = some k) : hitF (ks.drop i) w t d = hitF (ks.drop (i + 1)) (w.set k (waitP (gq t k + 1) (drawOf d k))) (t.set k (gq t k + 1)) d.tail := by
  obtain ⟨hi, hk⟩ := List.getElem?_eq_some_iff.1 h
  rw [List.drop_eq_getElem_cons hi, hk]; rfl
theorem calls_turn {P : Program} {g : Nat} {args : Array Value} {w : World} {v : Value} (h : Calls P g args w fun e w' => e = .returned v ∧ w = w') : Calls P g args w fun e w' => e = .returned v ∧ w' = w := h.mono fun _ _ ⟨a, b⟩ => ⟨a, b.symm⟩
theorem ints_at' {zs : List Int} {k : Nat} {u : Value} (h : (ints .i64 zs)[k]? = some u) (hk : k < zs.length) : u = .int .i64 (gq zs k) := by
  rw [ints_at _ _ _ hk] at h
  injection h with h
  exact h.symm

set_option maxRecDepth 100000 in
set_option maxHeartbeats 8000000 in
theorem talkSlot_any {w : World} {lo r gq' gw gt n cq co cd : Nat} {O D : Option Addr} {st : TS} (hOK : OkT n st) (hn : n ≤ 6) (hs : st.s ≤ 2000) (hd : st.ds.length ≤ 200) (hlo : lo ≤ w.heap.size)
    (hM : MW w lo r gq' gw gt n cq O co D cd (fO st.ts) (wO st.ts) (tO st.ts) st.ds st.o st.h st.s) :
    Calls Try.prog 52 #[.pointer (some ⟨r, 0, none⟩)] w fun e w' => e = .returned (.tuple #[]) ∧ (∃ O' co' D' cd', MW w' lo r gq' gw gt n cq O' co' D' cd' (fO (slotS st).ts) (wO (slotS st).ts) (tO (slotS st).ts) (slotS st).ds (slotS st).o (slotS st).h (slotS st).s) ∧ Below lo w w' := by
  obtain ⟨i0, hi, hz0, hz1, hz2⟩ := info_parts Try.infoInt
  have HOK := Lib.hid hOK
  have HTL := Lib.hid hOK.len
  obtain ⟨w1, hw1⟩ : ∃ w1, w.alloc (.cells #[] 3) = w1 := ⟨_, rfl⟩
  have B1 : Below w.heap.size w w1 := hw1 ▸ lit_below w
  have O1 : Own w1 w.heap.size 3 (some ⟨w.heap.size, 0, none⟩) 0 0 (ints .i64 []) := hw1 ▸ lit_own w
  have M1 := hM.bel B1
  have s1 := B1.size
  obtain ⟨w2, hw2⟩ : ∃ w2, w1.alloc (.cells #[] 3) = w2 := ⟨_, rfl⟩
  have B2 : Below w1.heap.size w1 w2 := hw2 ▸ lit_below w1
  have L2 : Own w2 w1.heap.size 3 (some ⟨w1.heap.size, 0, none⟩) 0 0 (ints .i64 []) := hw2 ▸ lit_own w1
  have s12 : w1.heap.size ≤ w2.heap.size := B2.size
  have M2 := M1.bel B2
  have O2 := O1.bel B2
  have HW := M2.a.has
  have s2 : w.heap.size ≤ w2.heap.size := Nat.le_trans s1 B2.size
  have hs12 : w.heap.size < w1.heap.size := by rw [← hw1]; simp
  obtain ⟨a0, a1, a2, a3, a4, a5, a6, a7⟩ := M2.row.cells
  have HLW := Lib.hid hM.a.has.len
  have E2 : Below w.heap.size w w2 := B1.trans (B2.mono s1)
  clear hOK
  go_enter Try.func52, Try.ntmps52
  go_wp2_with (at_builtin; refine wpList_app_has _ rfl (.tmp 10) (.tmp 14) 23 rfl w1.heap.size 3 i0 (.int .i64 0) 8 Try.underlying23 hi hz0 hz1 hz2 rfl (some ⟨w1.heap.size, 0, none⟩) 0 0 [] rfl L2 (some ⟨gw, 0, none⟩) n n (ints .i64 (wO st.ts)) rfl HW (ints_oneCell _ _) (by omega) (by decide) s12 ?_; intro AO cO w3 O3 G3 B3; rw [Nat.zero_add, List.nil_append] at O3)
  have E3 : Below w.heap.size w w3 := E2.trans (B3.mono s1)
  have O3n : Own w3 w.heap.size 3 (some ⟨w.heap.size, 0, none⟩) 0 0 (ints .i64 []) := O2.grown G3 (fun a ha e => by
    injection ha with ha; subst ha
    have e' : w.heap.size = w1.heap.size := by injection e
    omega)
  have hap0 : ∀ a a2, some (⟨w.heap.size, 0, none⟩ : Addr) = some a → AO = some a2 → a.block ≠ a2.block := fun a a2 e1 e2 => by
    injection e1 with e1; subst e1
    have := O3.ge (a := w1) (Nat.le_refl _) a2 e2
    show w.heap.size ≠ a2.block
    omega
  have hMl := Lib.hid hM
  have hs12' := Lib.hid hs12
  clear O2 L2 G3 B3 M2 M1 a0 a1 a2 a3 a4 a5 a6 a7 HW hw1 hw2 B1 B2 O1 E2 hs12
  go_loopw [2, 4] (fun v t wr => ∃ (k q : Nat) (A' : Option Addr) (c' : Nat), k ≤ n ∧ q ≤ k ∧ t = .int .i64 (k : Int) ∧ v = .slice A' q c' ∧ Own wr w.heap.size 3 A' q c' (ints .i64 (nowI (st.ts.take k))) ∧ Own wr w1.heap.size 3 AO n cO (ints .i64 (wO st.ts)) ∧ (∀ a a2, A' = some a → AO = some a2 → a.block ≠ a2.block) ∧ Below w.heap.size w wr) (fun _ t _ => n - (intOf t).toNat)
  case atStart => exact ⟨0, 0, _, _, Nat.zero_le _, Nat.le_refl _, rfl, rfl, O3n, O3, hap0, E3⟩
  case round =>
    obtain ⟨k, q, AN, cN, hk, hqk, rfl, rfl, ON, OO, hap, BW⟩ := hrel
    have MR := hMl.out.bel BW
    have sW := BW.size
    by_cases hkn : k < n
    · have kB : decide ((k : Int) < (n : Int)) = true := by simp; omega
      have kN : decide (k < n) = true := by simp; omega
      have kW : IntKind.i64.wrap ((k : Int) + 1) = ((k + 1 : Nat) : Int) := by rw [IntWalk.i64_in _ (by omega)]; omega
      have a1 := MR.row.cells.2.2.2.2.1
      have a2 := MR.row.cells.2.2.2.2.2.1
      obtain ⟨x, hx⟩ : ∃ x, st.ts[k]? = some x := ⟨_, List.getElem?_eq_getElem (by rw [HTL.out]; exact hkn)⟩
      obtain ⟨g1, g2, g3⟩ := fO_at st.ts k x hx
      obtain ⟨u1, hu1, c1, _⟩ := MR.q.at_ hkn
      obtain ⟨u2, hu2, c2, _⟩ := MR.a.at_ hkn
      obtain rfl := ints_at' hu1 (by simp [fO, HTL.out, hkn])
      obtain rfl := ints_at' hu2 (by simp [wO, HTL.out, hkn])
      rw [g1] at c1
      rw [g3] at c2
      have HS := Lib.hid (nowI_step hx)
      obtain ⟨f, tt, v⟩ := x
      dsimp only at c1 c2
      have HSE := Lib.hid (show sendsT (f, tt, v) = (decide (0 < f) && decide (v = 0)) from rfl)
      clear hx hu1 hu2 g1 g2 g3
      by_cases hf : 0 < f
      · have f1 : decide (f > 0) = true := by simp; omega
        have f2 : decide (0 < f) = true := by simp; omega
        by_cases hv : v = 0
        · subst hv
          have v1 : ((0 : Int) == 0) = true := rfl
          have HN : Hid (nowI (st.ts.take (k + 1)) = nowI (st.ts.take k) ++ [(k : Int)]) := by
            have h1 := HS.out
            rw [if_pos (by rw [HSE.out, f2]; rfl)] at h1
            exact h1
          clear hf HS HSE
          go_wp2_with (at_builtin; refine wpList_apps _ rfl (.tmp 43) (.tmp 45) 23 rfl w.heap.size 3 i0 (.int .i64 0) 8 Try.underlying23 hi hz0 hz1 hz2 rfl AN q cN _ rfl ON 1 1 #[.int .i64 (k : Int)] rfl rfl (by simp [Value.oneCell']) (by decide) (by omega) (by decide) sW ?_; intro g6 c6 w6 O6 G6 B6 E6)
          go_roundw
          case rel =>
            have OO6 := OO.grown G6 (fun a ha e => by
              cases AN with
              | none => cases e
              | some b =>
                have e2 : a.block = b.block := by injection e
                exact hap b a rfl ha e2.symm)
            refine ⟨k + 1, q + 1, some ⟨g6, 0, none⟩, c6, by have := of_decide_eq_true kN; omega, by omega, by simp, rfl, by rw [HN.out, ints_app]; exact O6, OO6, fun a a2 e1 e2 => ?_, BW.trans B6⟩
            injection e1 with e1; subst e1
            rcases E6 with e | e
            · cases AN with
              | none => cases e
              | some b =>
                have e3 : b.block = g6 := by injection e
                have := hap b a2 rfl e2
                show g6 ≠ a2.block
                omega
            · have := OO.lt a2 e2
              show g6 ≠ a2.block
              omega
          case measure => have := of_decide_eq_true kN; simp [intOf]; omega
        · have v1 : (v == 0) = false := by simp [hv]
          have HN : Hid (nowI (st.ts.take (k + 1)) = nowI (st.ts.take k)) := by
            have h1 := HS.out
            rw [if_neg (by rw [HSE.out, decide_eq_false hv]; simp), List.append_nil] at h1
            exact h1
          clear hf hv HS HSE
          go_wp2
          go_roundw
          case rel => exact ⟨k + 1, q, _, _, by have := of_decide_eq_true kN; omega, by omega, by simp, rfl, by rw [HN.out]; exact ON, OO, hap, BW⟩
          case measure => have := of_decide_eq_true kN; simp [intOf]; omega
      · have f1 : decide (f > 0) = false := by simp; omega
        have f2 : decide (0 < f) = false := by simp; omega
        have HN : Hid (nowI (st.ts.take (k + 1)) = nowI (st.ts.take k)) := by
          have h1 := HS.out
          rw [if_neg (by rw [HSE.out, f2]; simp), List.append_nil] at h1
          exact h1
        clear hf HS HSE
        go_wp2
        go_roundw
        case rel => exact ⟨k + 1, q, _, _, by have := of_decide_eq_true kN; omega, by omega, by simp, rfl, by rw [HN.out]; exact ON, OO, hap, BW⟩
        case measure => have := of_decide_eq_true kN; simp [intOf]; omega
    have kB : decide ((k : Int) < (n : Int)) = false := by simp; omega
    have kN : decide (k < n) = false := by simp; omega
    obtain rfl : k = n := by omega
    rw [take_of_len HTL.out] at ON
    have hlq : (sendersF 0 st.ts).length = q := by have := ON.has.len; rw [nowI_len] at this; exact this
    have hwb : Hid (∀ x ∈ wO st.ts, 0 ≤ x ∧ x ≤ 31) := fun x hx => by
      simp [wO] at hx
      obtain ⟨a, b, hx⟩ := hx
      exact HOK.out.w _ hx
    have htb : Hid (∀ x ∈ tO st.ts, 0 ≤ x ∧ x ≤ (st.s : Int)) := fun x hx => by
      simp [tO] at hx
      obtain ⟨a, b, hx⟩ := hx
      exact HOK.out.t _ hx
    have hfb : Hid (∀ x ∈ fO st.ts, 0 ≤ x ∧ x ≤ 9) := fun x hx => by
      simp [fO] at hx
      obtain ⟨a, b, hx⟩ := hx
      exact HOK.out.f _ hx
    have a1 := MR.row.cells.2.2.2.2.1
    have BL : Below lo w wr := BW.mono hlo
    have q3 : q = 0 ∨ q = 1 ∨ 1 < q := by omega
    have hnq : k ≤ 6 := hn
    clear hk hkn hqk
    rcases q3 with rfl | rfl | hq1
    · obtain ⟨m1, m2, m3, m4, m5, m6⟩ := mslot_none HOK.out (List.length_eq_zero_iff.1 hlq)
      have M5 : MW wr lo r gq' gw gt k cq O co D cd (fO (slotS st).ts) (wO st.ts) (tO (slotS st).ts) (slotS st).ds (slotS st).o (slotS st).h st.s := by rw [m1, m2, m3, m4, m5]; exact MR
      have HD5 := Lib.hid m6
      have HW5 := hwb
      have OO5 := OO
      have B5 := BL
      clear m1 m2 m3 m4 m5 m6 hlq MR
      go_wp2
      have HD0 := Lib.hid (show decF 0 ((wO st.ts).drop 0) _ = _ from HD5.out)
      have HB0 : Hid (∀ x ∈ wO st.ts, -((0 : Nat) : Int) ≤ x ∧ x ≤ 31) := fun x hx => by have := HW5.out x hx; omega
      go_loopw [8] (fun t wr => ∃ (j : Nat) (v : List Int) (O' : Option Addr) (co' : Nat) (D' : Option Addr) (cd' : Nat), j ≤ k ∧ t = .int .i64 (j : Int) ∧ Hid (decF j ((wO st.ts).drop j) v = wO (slotS st).ts) ∧ Hid (∀ x ∈ v, -(j : Int) ≤ x ∧ x ≤ 31) ∧ MW wr lo r gq' gw gt k cq O' co' D' cd' (fO (slotS st).ts) v (tO (slotS st).ts) (slotS st).ds (slotS st).o (slotS st).h st.s ∧ Own wr w1.heap.size 3 AO k cO (ints .i64 (wO st.ts)) ∧ Below lo w wr) (fun t _ => k - (intOf t).toNat)
      case atStart => exact ⟨0, _, _, _, _, _, Nat.zero_le _, rfl, HD0, HB0, M5, OO5, B5⟩
      case round =>
        obtain ⟨j, v, O', co', D', cd', hj, rfl, HD, HB, MJ, OJ, BJ⟩ := hrel
        have hlv : v.length = k := MJ.a.has.len
        have hlw : (wO st.ts).length = k := OJ.has.len
        by_cases hjk : j < k
        rotate_left
        · have jB : decide ((j : Int) < (k : Int)) = false := by simp; omega
          have jN : decide (j < k) = false := by simp; omega
          have hv : v = wO (slotS st).ts := by have h1 := HD.out; rw [decF_end (by omega)] at h1; exact h1
          have c2 := MJ.row.cells.2.2.1
          have cf2 := MJ.row.open_ 2
          have sW2 : IntKind.i64.wrap ((st.s : Int) + 1) = (st.s : Int) + 1 := IntWalk.i64_in _ (by omega)
          have hcast : ((st.s + 1 : Nat) : Int) = (st.s : Int) + 1 := by omega
          have MF := MJ.slots (st.s + 1)
          rw [hcast, hv] at MF
          have BF := BJ.setCell (p := ⟨r, 2, none⟩) MJ.ge (.int .i64 ((st.s : Int) + 1))
          have HMF := Lib.hid MF
          clear hcast hv hlv hlw MF hjk
          go_wp2
          refine bodyPost_end (results_none rfl _ _ _) rfl ?_
          exact ⟨rfl, ⟨_, _, _, _, HMF.out⟩, BF⟩
        have jB : decide ((j : Int) < (k : Int)) = true := by simp; omega
        have jN : decide (j < k) = true := by simp; omega
        have jW : IntKind.i64.wrap ((j : Int) + 1) = ((j + 1 : Nat) : Int) := by rw [IntWalk.i64_in _ (by omega)]; omega
        obtain ⟨gO, rfl, _, _⟩ := OJ.head (by omega)
        obtain ⟨u9, hu9, co0, _⟩ := OJ.at_ hjk
        obtain rfl := ints_at' hu9 (by omega)
        have HGO := Lib.hid (decF_go (os := wO st.ts) (v := v) (k := j) (by omega))
        obtain ⟨z, hz⟩ : ∃ z, gq (wO st.ts) j = z := ⟨_, rfl⟩
        rw [hz] at co0 HGO
        clear hu9 hz
        by_cases hz0 : 0 < z
        · have z1 : decide (z > 0) = true := by simp; omega
          have z2 : decide (0 < z) = true := by simp; omega
          have HD2 := Lib.hid (show decF (j + 1) ((wO st.ts).drop (j + 1)) (v.set j (gq v j - 1)) = wO (slotS st).ts by have h1 := HGO.out; rw [if_pos hz0] at h1; exact h1.symm.trans HD.out)
          obtain ⟨V, hV⟩ : ∃ V, wr.drew = V := ⟨_, rfl⟩
          have BV : Below wr.heap.size wr V := hV ▸ below_drewN _ 1
          have MV := MJ.bel BV
          have v5 := MV.row.cells.2.2.2.2.2.1
          obtain ⟨u8, hu8, cw1, fw1⟩ := MV.a.at_ hjk
          obtain rfl := ints_at' hu8 (by omega)
          obtain ⟨y, hy⟩ : ∃ y, gq v j = y := ⟨_, rfl⟩
          have hyb := HB.out y (by rw [← hy]; exact gq_mem (by omega))
          rw [hy] at cw1 HD2
          have yW : IntKind.i64.wrap (y - 1) = y - 1 := IntWalk.i64_in _ (by omega)
          have MF := MV.setw j (y - 1)
          have hgw : gw < w.heap.size := hMl.out.a.block.2
          have OF : Own (V.setCell ⟨gw, j, none⟩ (.int .i64 (y - 1))) w1.heap.size 3 (some ⟨gO, 0, none⟩) k cO (ints .i64 (wO st.ts)) := (OJ.bel BV).grown (one_grown9 V gw j _) (fun a ha e => by
            have e2 : a.block = gw := by injection e
            have h3 := OJ.ge (a := w1) (Nat.le_refl _) a ha
            have := hs12'.out
            omega)
          have BF : Below lo w (V.setCell ⟨gw, j, none⟩ (.int .i64 (y - 1))) := (BJ.trans (BV.mono (Nat.le_trans hlo BJ.size))).setCell (p := ⟨gw, j, none⟩) MJ.a.block.1 _
          have HB2 : Hid (∀ x ∈ v.set j (y - 1), -((j + 1 : Nat) : Int) ≤ x ∧ x ≤ 31) := fun x hx => by
            rcases List.mem_or_eq_of_mem_set hx with hx | rfl
            · have := HB.out x hx; omega
            · omega
          have bj : (j : Int) < (k : Int) := by omega
          have HMF := Lib.hid MF
          clear hu8 hy hyb MV MF MJ BV hlv hlw hz0
          go_wp2
          go_still_tail 14, (by kernel_rfl)
          go_wp2
          go_roundw
          case rel => exact ⟨j + 1, _, _, _, _, _, by have := of_decide_eq_true jN; omega, by simp, HD2, HB2, HMF.out, OF, BF⟩
          case measure => have := of_decide_eq_true jN; simp [intOf]; omega
        · have z1 : decide (z > 0) = false := by simp; omega
          have z2 : decide (0 < z) = false := by simp; omega
          have HD2 := Lib.hid (show decF (j + 1) ((wO st.ts).drop (j + 1)) v = wO (slotS st).ts by have h1 := HGO.out; rw [if_neg hz0] at h1; exact h1.symm.trans HD.out)
          have HB2 : Hid (∀ x ∈ v, -((j + 1 : Nat) : Int) ≤ x ∧ x ≤ 31) := fun x hx => by have := HB.out x hx; omega
          clear hz0 hlv hlw
          go_wp2
          go_roundw
          case rel => exact ⟨j + 1, _, _, _, _, _, by have := of_decide_eq_true jN; omega, by simp, HD2, HB2, MJ, OJ, BJ⟩
          case measure => have := of_decide_eq_true jN; simp [intOf]; omega
    · obtain ⟨k0, hk0⟩ : ∃ k0, sendersF 0 st.ts = [k0] := List.length_eq_one_iff.1 hlq
      obtain ⟨m1, m2, m3, m4, m5, m6, m7⟩ := mslot_one HOK.out hk0
      obtain ⟨gN, rfl, hgN0, hgN1⟩ := ON.head (by omega)
      obtain ⟨u0, hu0, cn, _⟩ := ON.at_ (show 0 < 1 by omega)
      obtain rfl : u0 = .int .i64 (k0 : Int) := by
        have : nowI st.ts = [(k0 : Int)] := by unfold nowI; rw [hk0]; rfl
        rw [this] at hu0
        simpa [ints] using hu0.symm
      obtain ⟨V, hV⟩ : ∃ V, wr.drew = V := ⟨_, rfl⟩
      have BV : Below wr.heap.size wr V := hV ▸ below_drewN _ 1
      have MV := MR.bel BV
      have v4 := MV.row.cells.2.2.2.2.1
      obtain ⟨u1, hu1, cq1, fq1⟩ := MV.q.at_ m7
      obtain rfl := ints_at' hu1 (by simp [fO, HTL.out]; exact m7)
      obtain ⟨F, hF⟩ : ∃ F, gq (fO st.ts) k0 = F := ⟨_, rfl⟩
      have hF9 := hfb.out F (by rw [← hF]; exact gq_mem (by simp [fO, HTL.out]; exact m7))
      rw [hF] at cq1 m1
      have FW : IntKind.i64.wrap (F - 1) = F - 1 := IntWalk.i64_in _ (by omega)
      obtain ⟨W6, hW6⟩ : ∃ W6, V.setCell ⟨gq', k0, none⟩ (.int .i64 (F - 1)) = W6 := ⟨_, rfl⟩
      have M6 := MV.setq k0 (F - 1)
      rw [hW6, ← m1] at M6
      have w6 := M6.row.cells.2.2.2.2.2.2.1
      obtain ⟨u2, _, ct1, ft1⟩ := M6.t.at_ m7
      obtain ⟨W7, hW7⟩ : ∃ W7, W6.setCell ⟨gt, k0, none⟩ (.int .i64 0) = W7 := ⟨_, rfl⟩
      have M7 := M6.sett k0 0
      rw [hW7, ← m2] at M7
      have w7 := M7.row.cells.1
      have w7b := M7.row.open_ 0
      have bk : (k0 : Int) < (k : Int) := by omega
      have hgV : V.heap.size = wr.heap.size := by rw [← hV]; rfl
      have h6s : W6.heap.size = V.heap.size := by rw [← hW6]; simp
      have h7s : W7.heap.size = W6.heap.size := by rw [← hW7]; simp
      have s7 : lo ≤ W7.heap.size := by have := BL.size; omega
      have HSZ := Lib.hid (show W7.heap.size = wr.heap.size by omega)
      have BL7 : Below lo w W7 := by
        rw [← hW7, ← hW6]
        exact ((BL.trans (BV.mono (by have := BL.size; omega))).setCell (p := ⟨gq', k0, none⟩) MR.q.block.1 _).setCell (p := ⟨gt, k0, none⟩) MR.t.block.1 _
      have hlo1 : st.o.length ≤ 2000 := by have := HOK.out.o; omega
      have OOV := OO.bel BV
      have OO6 : Own W6 w1.heap.size 3 AO k cO (ints .i64 (wO st.ts)) := by
        rw [← hW6]
        refine OOV.grown (one_grown9 V gq' k0 _) (fun a ha e => ?_)
        have e2 : a.block = gq' := by injection e
        have h1 := OO.ge (a := w1) (Nat.le_refl _) a ha
        have h2 : gq' < w.heap.size := hMl.out.q.block.2
        have := hs12'.out
        omega
      have OO7 : Own W7 w1.heap.size 3 AO k cO (ints .i64 (wO st.ts)) := by
        rw [← hW7]
        refine OO6.grown (one_grown9 W6 gt k0 _) (fun a ha e => ?_)
        have e2 : a.block = gt := by injection e
        have h1 := OO.ge (a := w1) (Nat.le_refl _) a ha
        have h2 : gt < w.heap.size := hMl.out.t.block.2
        have := hs12'.out
        omega
      have hM1 := Lib.hid m1
      have hM2 := Lib.hid m2
      have hM3 := Lib.hid m3
      have hM4 := Lib.hid m4
      have hM5 := Lib.hid m5
      have HD5 := Lib.hid m6
      have HW5 := hwb
      clear m1 m2 m3 m4 m5 m6 hlq hk0 hu0 hu1 hgV h6s h7s hF OO6 OOV MV M6 BV MR
      go_wp2
      go_still_tail 14, (by kernel_rfl)
      go_wp2_with (at_builtin; refine wpList_apps _ rfl (.tmp 78) (.tmp 80) 23 rfl lo 3 i0 (.int .i64 0) 8 Try.underlying23 hi hz0 hz1 hz2 rfl O st.o.length co _ rfl M7.o 1 1 #[.int .i64 (k0 : Int)] rfl rfl (by simp [Value.oneCell']) (by decide) (by omega) (by decide) s7 ?_; intro g8 c8 w8 O8 G8 B8 E8; have k8 := M7.row.grown G8 (own_not9 M7.o M7.row (by decide)); have y0 := k8.cells.1; have y1 := k8.open_ 0)
      have M8 := M7.order G8 O8 E8
      have OO8 : Own w8 w1.heap.size 3 AO k cO (ints .i64 (wO st.ts)) := OO7.grown G8 (fun a ha e => by
        cases O with
        | none => cases e
        | some b =>
          have e2 : a.block = b.block := by injection e
          have h1 := OO.ge (a := w1) (Nat.le_refl _) a ha
          have h2 := hMl.out.o.lt b rfl
          have := hs12'.out
          omega)
      have OO5 := own_set OO8 k8 (by decide) 0 (.slice (some ⟨g8, 0, none⟩) (st.o.length + 1) c8)
      have M5 : MW (w8.setCell ⟨r, 0, none⟩ (.slice (some ⟨g8, 0, none⟩) (st.o.length + 1) c8)) lo r gq' gw gt k cq (some ⟨g8, 0, none⟩) c8 D cd (fO (slotS st).ts) (wO st.ts) (tO (slotS st).ts) (slotS st).ds (slotS st).o (slotS st).h st.s := by rw [hM3.out, hM4.out, hM5.out]; exact M8
      have B5 : Below lo w (w8.setCell ⟨r, 0, none⟩ (.slice (some ⟨g8, 0, none⟩) (st.o.length + 1) c8)) := (BL7.trans B8).setCell (p := ⟨r, 0, none⟩) hMl.out.ge _
      have HD0 := Lib.hid (show decF 0 ((wO st.ts).drop 0) _ = _ from HD5.out)
      have HB0 : Hid (∀ x ∈ wO st.ts, -((0 : Nat) : Int) ≤ x ∧ x ≤ 31) := fun x hx => by have := HW5.out x hx; omega
      go_loopw [8] (fun t wr => ∃ (j : Nat) (v : List Int) (O' : Option Addr) (co' : Nat) (D' : Option Addr) (cd' : Nat), j ≤ k ∧ t = .int .i64 (j : Int) ∧ Hid (decF j ((wO st.ts).drop j) v = wO (slotS st).ts) ∧ Hid (∀ x ∈ v, -(j : Int) ≤ x ∧ x ≤ 31) ∧ MW wr lo r gq' gw gt k cq O' co' D' cd' (fO (slotS st).ts) v (tO (slotS st).ts) (slotS st).ds (slotS st).o (slotS st).h st.s ∧ Own wr w1.heap.size 3 AO k cO (ints .i64 (wO st.ts)) ∧ Below lo w wr) (fun t _ => k - (intOf t).toNat)
      case atStart => exact ⟨0, _, _, _, _, _, Nat.zero_le _, rfl, HD0, HB0, M5, OO5, B5⟩
      case round =>
        obtain ⟨j, v, O', co', D', cd', hj, rfl, HD, HB, MJ, OJ, BJ⟩ := hrel
        have hlv : v.length = k := MJ.a.has.len
        have hlw : (wO st.ts).length = k := OJ.has.len
        by_cases hjk : j < k
        rotate_left
        · have jB : decide ((j : Int) < (k : Int)) = false := by simp; omega
          have jN : decide (j < k) = false := by simp; omega
          have hv : v = wO (slotS st).ts := by have h1 := HD.out; rw [decF_end (by omega)] at h1; exact h1
          have c2 := MJ.row.cells.2.2.1
          have cf2 := MJ.row.open_ 2
          have sW2 : IntKind.i64.wrap ((st.s : Int) + 1) = (st.s : Int) + 1 := IntWalk.i64_in _ (by omega)
          have hcast : ((st.s + 1 : Nat) : Int) = (st.s : Int) + 1 := by omega
          have MF := MJ.slots (st.s + 1)
          rw [hcast, hv] at MF
          have BF := BJ.setCell (p := ⟨r, 2, none⟩) MJ.ge (.int .i64 ((st.s : Int) + 1))
          have HMF := Lib.hid MF
          clear hcast hv hlv hlw MF hjk
          go_wp2
          refine bodyPost_end (results_none rfl _ _ _) rfl ?_
          exact ⟨rfl, ⟨_, _, _, _, HMF.out⟩, BF⟩
        have jB : decide ((j : Int) < (k : Int)) = true := by simp; omega
        have jN : decide (j < k) = true := by simp; omega
        have jW : IntKind.i64.wrap ((j : Int) + 1) = ((j + 1 : Nat) : Int) := by rw [IntWalk.i64_in _ (by omega)]; omega
        obtain ⟨gO, rfl, _, _⟩ := OJ.head (by omega)
        obtain ⟨u9, hu9, co0, _⟩ := OJ.at_ hjk
        obtain rfl := ints_at' hu9 (by omega)
        have HGO := Lib.hid (decF_go (os := wO st.ts) (v := v) (k := j) (by omega))
        obtain ⟨z, hz⟩ : ∃ z, gq (wO st.ts) j = z := ⟨_, rfl⟩
        rw [hz] at co0 HGO
        clear hu9 hz
        by_cases hz0 : 0 < z
        · have z1 : decide (z > 0) = true := by simp; omega
          have z2 : decide (0 < z) = true := by simp; omega
          have HD2 := Lib.hid (show decF (j + 1) ((wO st.ts).drop (j + 1)) (v.set j (gq v j - 1)) = wO (slotS st).ts by have h1 := HGO.out; rw [if_pos hz0] at h1; exact h1.symm.trans HD.out)
          obtain ⟨V, hV⟩ : ∃ V, wr.drew = V := ⟨_, rfl⟩
          have BV : Below wr.heap.size wr V := hV ▸ below_drewN _ 1
          have MV := MJ.bel BV
          have v5 := MV.row.cells.2.2.2.2.2.1
          obtain ⟨u8, hu8, cw1, fw1⟩ := MV.a.at_ hjk
          obtain rfl := ints_at' hu8 (by omega)
          obtain ⟨y, hy⟩ : ∃ y, gq v j = y := ⟨_, rfl⟩
          have hyb := HB.out y (by rw [← hy]; exact gq_mem (by omega))
          rw [hy] at cw1 HD2
          have yW : IntKind.i64.wrap (y - 1) = y - 1 := IntWalk.i64_in _ (by omega)
          have MF := MV.setw j (y - 1)
          have hgw : gw < w.heap.size := hMl.out.a.block.2
          have OF : Own (V.setCell ⟨gw, j, none⟩ (.int .i64 (y - 1))) w1.heap.size 3 (some ⟨gO, 0, none⟩) k cO (ints .i64 (wO st.ts)) := (OJ.bel BV).grown (one_grown9 V gw j _) (fun a ha e => by
            have e2 : a.block = gw := by injection e
            have h3 := OJ.ge (a := w1) (Nat.le_refl _) a ha
            have := hs12'.out
            omega)
          have BF : Below lo w (V.setCell ⟨gw, j, none⟩ (.int .i64 (y - 1))) := (BJ.trans (BV.mono (Nat.le_trans hlo BJ.size))).setCell (p := ⟨gw, j, none⟩) MJ.a.block.1 _
          have HB2 : Hid (∀ x ∈ v.set j (y - 1), -((j + 1 : Nat) : Int) ≤ x ∧ x ≤ 31) := fun x hx => by
            rcases List.mem_or_eq_of_mem_set hx with hx | rfl
            · have := HB.out x hx; omega
            · omega
          have bj : (j : Int) < (k : Int) := by omega
          have HMF := Lib.hid MF
          clear hu8 hy hyb MV MF MJ BV hlv hlw hz0
          go_wp2
          go_still_tail 14, (by kernel_rfl)
          go_wp2
          go_roundw
          case rel => exact ⟨j + 1, _, _, _, _, _, by have := of_decide_eq_true jN; omega, by simp, HD2, HB2, HMF.out, OF, BF⟩
          case measure => have := of_decide_eq_true jN; simp [intOf]; omega
        · have z1 : decide (z > 0) = false := by simp; omega
          have z2 : decide (0 < z) = false := by simp; omega
          have HD2 := Lib.hid (show decF (j + 1) ((wO st.ts).drop (j + 1)) v = wO (slotS st).ts by have h1 := HGO.out; rw [if_neg hz0] at h1; exact h1.symm.trans HD.out)
          have HB2 : Hid (∀ x ∈ v, -((j + 1 : Nat) : Int) ≤ x ∧ x ≤ 31) := fun x hx => by have := HB.out x hx; omega
          clear hz0 hlv hlw
          go_wp2
          go_roundw
          case rel => exact ⟨j + 1, _, _, _, _, _, by have := of_decide_eq_true jN; omega, by simp, HD2, HB2, MJ, OJ, BJ⟩
          case measure => have := of_decide_eq_true jN; simp [intOf]; omega
    · obtain ⟨hwv, m1, m2, m3, m4, m5⟩ := mslot_hit HOK.out (by rw [hlq]; exact hq1)
      have q1B : (q == 1) = false := by simp; omega
      have q1C : ((q : Int) == 1) = false := by simp; omega
      have q2B : decide ((q : Int) > 1) = true := by simp; omega
      have q2C : decide (1 < (q : Int)) = true := by simp; omega
      have q2D : decide (1 < q) = true := by simp; omega
      have c1 := MR.row.cells.2.1
      have cf1 := MR.row.open_ 1
      have hhs : st.h ≤ 2000 := by have := HOK.out.o; omega
      have hW : IntKind.i64.wrap ((st.h : Int) + 1) = (st.h : Int) + 1 := IntWalk.i64_in _ (by omega)
      have hcast : ((st.h + 1 : Nat) : Int) = (st.h : Int) + 1 := by omega
      have M4 := MR.hits (st.h + 1)
      rw [hcast] at M4
      have ON4 := own_set ON MR.row (by decide) 1 (.int .i64 ((st.h : Int) + 1))
      have OO4 := own_set OO MR.row (by decide) 1 (.int .i64 ((st.h : Int) + 1))
      have B4 := BL.setCell (p := ⟨r, 1, none⟩) hMl.out.ge (.int .i64 ((st.h : Int) + 1))
      clear hcast
      have hqk : q ≤ k := by rw [← hlq]; have := sendersF_len st.ts 0; have := HTL.out; omega
      have HQL := Lib.hid hlq
      have hM1 := Lib.hid m1
      have hM2 := Lib.hid m2
      have hM3 := Lib.hid m3
      have hM4 := Lib.hid m4
      have HD5 := Lib.hid m5
      have HDB := Lib.hid HOK.out.d
      have hh0 : Hid (hitF ((sendersF 0 st.ts).drop 0) (wO st.ts) (tO st.ts) st.ds = hitF (sendersF 0 st.ts) (wO st.ts) (tO st.ts) st.ds) := rfl
      have htb0 : Hid (∀ x ∈ tO st.ts, 0 ≤ x ∧ x ≤ (st.s : Int) + (0 : Nat)) := fun x hx => by have := htb.out x hx; omega
      clear m1 m2 m3 m4 m5 hlq MR ON OO BL hq1
      go_wp2
      clear c1 cf1 a1
      go_loopw [6] (fun t wr => ∃ (i : Nat) (wv tv dv : List Int) (D' : Option Addr) (cd' : Nat), i ≤ q ∧ t = .int .i64 (i : Int) ∧ Hid (hitF ((sendersF 0 st.ts).drop i) wv tv dv = hitF (sendersF 0 st.ts) (wO st.ts) (tO st.ts) st.ds) ∧ Hid (∀ x ∈ wv, 0 ≤ x ∧ x ≤ 31) ∧ Hid (∀ x ∈ tv, 0 ≤ x ∧ x ≤ (st.s : Int) + i) ∧ Hid (∀ x ∈ dv, 0 ≤ x ∧ x ≤ 1000) ∧ dv.length ≤ 200 ∧ MW wr lo r gq' gw gt k cq O co D' cd' (fO st.ts) wv tv dv st.o (st.h + 1) st.s ∧ Own wr w.heap.size 3 AN q cN (ints .i64 (nowI st.ts)) ∧ Own wr w1.heap.size 3 AO k cO (ints .i64 (wO st.ts)) ∧ Below lo w wr) (fun t _ => q - (intOf t).toNat)
      case atStart => exact ⟨0, _, _, _, _, _, Nat.zero_le _, rfl, hh0, hwb, htb0, HDB, hd, M4, ON4, OO4, B4⟩
      case round =>
        obtain ⟨i, wv, tv, dv, D', cd', hi', rfl, HI, HWV, HTV, HDV, hdv, MI, ONi, OOi, BLi⟩ := hrel
        by_cases hiq : i < q
        rotate_left
        · have iB : decide ((i : Int) < (q : Int)) = false := by simp; omega
          have iN : decide (i < q) = false := by simp; omega
          have hfin : (wv, tv, dv) = (hwv, tO (slotS st).ts, (slotS st).ds) := by
            have h1 := HI.out
            rw [List.drop_of_length_le (by rw [HQL.out]; omega), hM1.out] at h1
            exact h1
          injection hfin with e1 e2
          injection e2 with e2 e3
          subst e1 e2 e3
          have M5 : MW wr lo r gq' gw gt k cq O co D' cd' (fO (slotS st).ts) wv (tO (slotS st).ts) (slotS st).ds (slotS st).o (slotS st).h st.s := by rw [hM2.out, hM3.out, hM4.out]; exact MI
          have OO5 := OOi
          have B5 := BLi
          have HW5 := HWV
          go_wp2
          have HD0 := Lib.hid (show decF 0 ((wO st.ts).drop 0) _ = _ from HD5.out)
          have HB0 : Hid (∀ x ∈ wv, -((0 : Nat) : Int) ≤ x ∧ x ≤ 31) := fun x hx => by have := HW5.out x hx; omega
          go_loopw [8] (fun t wr => ∃ (j : Nat) (v : List Int) (O' : Option Addr) (co' : Nat) (D' : Option Addr) (cd' : Nat), j ≤ k ∧ t = .int .i64 (j : Int) ∧ Hid (decF j ((wO st.ts).drop j) v = wO (slotS st).ts) ∧ Hid (∀ x ∈ v, -(j : Int) ≤ x ∧ x ≤ 31) ∧ MW wr lo r gq' gw gt k cq O' co' D' cd' (fO (slotS st).ts) v (tO (slotS st).ts) (slotS st).ds (slotS st).o (slotS st).h st.s ∧ Own wr w1.heap.size 3 AO k cO (ints .i64 (wO st.ts)) ∧ Below lo w wr) (fun t _ => k - (intOf t).toNat)
          case atStart => exact ⟨0, _, _, _, _, _, Nat.zero_le _, rfl, HD0, HB0, M5, OO5, B5⟩
          case round =>
            obtain ⟨j, v, O', co', D', cd', hj, rfl, HD, HB, MJ, OJ, BJ⟩ := hrel
            have hlv : v.length = k := MJ.a.has.len
            have hlw : (wO st.ts).length = k := OJ.has.len
            by_cases hjk : j < k
            rotate_left
            · have jB : decide ((j : Int) < (k : Int)) = false := by simp; omega
              have jN : decide (j < k) = false := by simp; omega
              have hv : v = wO (slotS st).ts := by have h1 := HD.out; rw [decF_end (by omega)] at h1; exact h1
              have c2 := MJ.row.cells.2.2.1
              have cf2 := MJ.row.open_ 2
              have sW2 : IntKind.i64.wrap ((st.s : Int) + 1) = (st.s : Int) + 1 := IntWalk.i64_in _ (by omega)
              have hcast : ((st.s + 1 : Nat) : Int) = (st.s : Int) + 1 := by omega
              have MF := MJ.slots (st.s + 1)
              rw [hcast, hv] at MF
              have BF := BJ.setCell (p := ⟨r, 2, none⟩) MJ.ge (.int .i64 ((st.s : Int) + 1))
              have HMF := Lib.hid MF
              clear hcast hv hlv hlw MF hjk
              go_wp2
              refine bodyPost_end (results_none rfl _ _ _) rfl ?_
              exact ⟨rfl, ⟨_, _, _, _, HMF.out⟩, BF⟩
            have jB : decide ((j : Int) < (k : Int)) = true := by simp; omega
            have jN : decide (j < k) = true := by simp; omega
            have jW : IntKind.i64.wrap ((j : Int) + 1) = ((j + 1 : Nat) : Int) := by rw [IntWalk.i64_in _ (by omega)]; omega
            obtain ⟨gO, rfl, _, _⟩ := OJ.head (by omega)
            obtain ⟨u9, hu9, co0, _⟩ := OJ.at_ hjk
            obtain rfl := ints_at' hu9 (by omega)
            have HGO := Lib.hid (decF_go (os := wO st.ts) (v := v) (k := j) (by omega))
            obtain ⟨z, hz⟩ : ∃ z, gq (wO st.ts) j = z := ⟨_, rfl⟩
            rw [hz] at co0 HGO
            clear hu9 hz
            by_cases hz0 : 0 < z
            · have z1 : decide (z > 0) = true := by simp; omega
              have z2 : decide (0 < z) = true := by simp; omega
              have HD2 := Lib.hid (show decF (j + 1) ((wO st.ts).drop (j + 1)) (v.set j (gq v j - 1)) = wO (slotS st).ts by have h1 := HGO.out; rw [if_pos hz0] at h1; exact h1.symm.trans HD.out)
              obtain ⟨V, hV⟩ : ∃ V, wr.drew = V := ⟨_, rfl⟩
              have BV : Below wr.heap.size wr V := hV ▸ below_drewN _ 1
              have MV := MJ.bel BV
              have v5 := MV.row.cells.2.2.2.2.2.1
              obtain ⟨u8, hu8, cw1, fw1⟩ := MV.a.at_ hjk
              obtain rfl := ints_at' hu8 (by omega)
              obtain ⟨y, hy⟩ : ∃ y, gq v j = y := ⟨_, rfl⟩
              have hyb := HB.out y (by rw [← hy]; exact gq_mem (by omega))
              rw [hy] at cw1 HD2
              have yW : IntKind.i64.wrap (y - 1) = y - 1 := IntWalk.i64_in _ (by omega)
              have MF := MV.setw j (y - 1)
              have hgw : gw < w.heap.size := hMl.out.a.block.2
              have OF : Own (V.setCell ⟨gw, j, none⟩ (.int .i64 (y - 1))) w1.heap.size 3 (some ⟨gO, 0, none⟩) k cO (ints .i64 (wO st.ts)) := (OJ.bel BV).grown (one_grown9 V gw j _) (fun a ha e => by
                have e2 : a.block = gw := by injection e
                have h3 := OJ.ge (a := w1) (Nat.le_refl _) a ha
                have := hs12'.out
                omega)
              have BF : Below lo w (V.setCell ⟨gw, j, none⟩ (.int .i64 (y - 1))) := (BJ.trans (BV.mono (Nat.le_trans hlo BJ.size))).setCell (p := ⟨gw, j, none⟩) MJ.a.block.1 _
              have HB2 : Hid (∀ x ∈ v.set j (y - 1), -((j + 1 : Nat) : Int) ≤ x ∧ x ≤ 31) := fun x hx => by
                rcases List.mem_or_eq_of_mem_set hx with hx | rfl
                · have := HB.out x hx; omega
                · omega
              have bj : (j : Int) < (k : Int) := by omega
              have HMF := Lib.hid MF
              clear hu8 hy hyb MV MF MJ BV hlv hlw hz0
              go_wp2
              go_still_tail 14, (by kernel_rfl)
              go_wp2
              go_roundw
              case rel => exact ⟨j + 1, _, _, _, _, _, by have := of_decide_eq_true jN; omega, by simp, HD2, HB2, HMF.out, OF, BF⟩
              case measure => have := of_decide_eq_true jN; simp [intOf]; omega
            · have z1 : decide (z > 0) = false := by simp; omega
              have z2 : decide (0 < z) = false := by simp; omega
              have HD2 := Lib.hid (show decF (j + 1) ((wO st.ts).drop (j + 1)) v = wO (slotS st).ts by have h1 := HGO.out; rw [if_neg hz0] at h1; exact h1.symm.trans HD.out)
              have HB2 : Hid (∀ x ∈ v, -((j + 1 : Nat) : Int) ≤ x ∧ x ≤ 31) := fun x hx => by have := HB.out x hx; omega
              clear hz0 hlv hlw
              go_wp2
              go_roundw
              case rel => exact ⟨j + 1, _, _, _, _, _, by have := of_decide_eq_true jN; omega, by simp, HD2, HB2, MJ, OJ, BJ⟩
              case measure => have := of_decide_eq_true jN; simp [intOf]; omega
        have iB : decide ((i : Int) < (q : Int)) = true := by simp; omega
        have iN : decide (i < q) = true := by simp; omega
        have iW : IntKind.i64.wrap ((i : Int) + 1) = ((i + 1 : Nat) : Int) := by rw [IntWalk.i64_in _ (by omega)]; omega
        obtain ⟨gN, rfl, hgN0, hgN1⟩ := ONi.head (by omega)
        obtain ⟨k0, hk0⟩ : ∃ k0, (sendersF 0 st.ts)[i]? = some k0 := ⟨_, List.getElem?_eq_getElem (by rw [HQL.out]; exact hiq)⟩
        have hk0n : k0 < k := by have := sendersF_ge st.ts 0 k0 (List.mem_of_getElem? hk0); have := HTL.out; omega
        obtain ⟨u0, hu0, cn, _⟩ := ONi.at_ hiq
        obtain rfl : u0 = .int .i64 (k0 : Int) := by
          unfold nowI ints at hu0
          rw [List.getElem?_map, List.getElem?_map, hk0] at hu0
          simpa using hu0.symm
        have HGO := Lib.hid (hitF_go (w := wv) (t := tv) (d := dv) hk0)
        have hlw : wv.length = k := MI.a.has.len
        have hlt' : tv.length = k := MI.t.has.len
        obtain ⟨V, hV⟩ : ∃ V, wr.drew = V := ⟨_, rfl⟩
        have BV : Below wr.heap.size wr V := hV ▸ below_drewN _ 1
        have MV := MI.bel BV
        have v6 := MV.row.cells.2.2.2.2.2.2.1
        obtain ⟨u2, hu2, ct1, ft1⟩ := MV.t.at_ hk0n
        obtain rfl := ints_at' hu2 (by omega)
        obtain ⟨T0, hT0⟩ : ∃ T0, gq tv k0 = T0 := ⟨_, rfl⟩
        have hTb := HTV.out T0 (by rw [← hT0]; exact gq_mem (by omega))
        rw [hT0] at ct1 HGO
        have TW : IntKind.i64.wrap (T0 + 1) = T0 + 1 := IntWalk.i64_in _ (by omega)
        obtain ⟨W6, hW6⟩ : ∃ W6, V.setCell ⟨gt, k0, none⟩ (.int .i64 (T0 + 1)) = W6 := ⟨_, rfl⟩
        have M6 := MV.sett k0 (T0 + 1)
        rw [hW6] at M6
        -- the second region
        obtain ⟨X, hX⟩ : ∃ X, W6.drew = X := ⟨_, rfl⟩
        have BX : Below W6.heap.size W6 X := hX ▸ below_drewN _ 1
        have MX := M6.bel BX
        have x5 := MX.row.cells.2.2.2.2.2.1
        have x6 := MX.row.cells.2.2.2.2.2.2.1
        obtain ⟨u3, hu3, ct2, _⟩ := MX.t.at_ hk0n
        obtain rfl := ints_at' hu3 (by rw [List.length_set]; omega)
        rw [gq_set_eq (by omega)] at ct2
        obtain ⟨u4, _, cw2, fw2⟩ := MX.a.at_ hk0n
        have bk : (k0 : Int) < (k : Int) := by omega
        have hk06 : k0 < 6 := by omega
        -- what is kept of the rest
        have keep : ∀ {A : Option Addr} {m c lo2 : Nat} {xs : List Value}, Own wr lo2 3 A m c xs → (∀ a, A = some a → w.heap.size ≤ a.block) → Own X lo2 3 A m c xs := fun {A m c lo2 xs} hO hge => by
          have h1 := hO.bel BV
          have h2 : Own W6 lo2 3 A m c xs := by
            rw [← hW6]
            refine h1.grown (one_grown9 V gt k0 _) (fun a ha e => ?_)
            have e2 : a.block = gt := by injection e
            have h3 := hge a ha
            have h4 : gt < w.heap.size := hMl.out.t.block.2
            omega
          exact h2.bel BX
        have ONX := keep ONi (fun a ha => by injection ha with ha; subst ha; exact hgN0)
        have OOX := keep OOi (fun a ha => by have := OOi.ge (a := w1) (Nat.le_refl _) a ha; have := hs12'.out; omega)
        have BLX : Below lo w X := by
          have h1 := BLi.trans (BV.mono (Nat.le_trans hlo BLi.size))
          have h2 : Below lo w W6 := by rw [← hW6]; exact h1.setCell (p := ⟨gt, k0, none⟩) MI.t.block.1 _
          exact h2.trans (BX.mono (Nat.le_trans hlo h2.size))
        have hdb : 0 ≤ drawOf dv k0 ∧ drawOf dv k0 ≤ 1000 := drawOf_b HDV.out hk06
        have CW := Lib.hid (fun W => calls_turn (l9Wait_any (T0 + 1) (drawOf dv k0) W (by omega) (by omega)))
        have hwp := waitP_b (t := T0 + 1) (d := drawOf dv k0) (by omega)
        obtain ⟨wp, hwpe⟩ : ∃ wp, waitP (T0 + 1) (drawOf dv k0) = wp := ⟨_, rfl⟩
        rw [hwpe] at CW hwp HGO
        have HTV2 : Hid (∀ x ∈ tv.set k0 (T0 + 1), 0 ≤ x ∧ x ≤ (st.s : Int) + (i + 1 : Nat)) := fun x hx => by
          rcases List.mem_or_eq_of_mem_set hx with hx | rfl
          · have := HTV.out x hx; omega
          · omega
        have HWV2 : Hid (∀ x ∈ wv.set k0 wp, 0 ≤ x ∧ x ≤ 31) := fun x hx => by
          rcases List.mem_or_eq_of_mem_set hx with hx | rfl
          · exact HWV.out x hx
          · exact hwp
        have HI2 := Lib.hid (HGO.out.symm.trans HI.out)
        clear hu0 hu2 hu3 hk0 keep HGO HI hT0 hwpe hlw hlt' MV M6 hTb hwp
        cases dv with
        | nil =>
          have CD := Lib.hid (calls_turn (talkDraw_nil (k := k0) hk06 MX.row))
          have HDV2 := HDV
          have hdn : drawOf [] k0 = 33 * (k0 : Int) := rfl
          rw [hdn] at CW
          have MY := MX.setw k0 wp
          have BY := BLX.setCell (p := ⟨gw, k0, none⟩) MX.a.block.1 (.int .i64 wp)
          have ONY : Own (X.setCell ⟨gw, k0, none⟩ (.int .i64 wp)) w.heap.size 3 (some ⟨gN, 0, none⟩) q cN (ints .i64 (nowI st.ts)) := ONX.grown (one_grown9 X gw k0 _) (fun a ha e => by
            injection ha with ha; subst ha
            have e2 : gN = gw := by injection e
            have h4 : gw < w.heap.size := hMl.out.a.block.2
            omega)
          have OOY : Own (X.setCell ⟨gw, k0, none⟩ (.int .i64 wp)) w1.heap.size 3 AO k cO (ints .i64 (wO st.ts)) := OOX.grown (one_grown9 X gw k0 _) (fun a ha e => by
            have e2 : a.block = gw := by injection e
            have h3 := OOX.ge (a := w1) (Nat.le_refl _) a ha
            have h4 : gw < w.heap.size := hMl.out.a.block.2
            have := hs12'.out
            omega)
          have HMY := Lib.hid MY
          clear MX MY MI
          go_wp2
          go_still_tail 14, (by kernel_rfl)
          go_wp2
          go_still_tail 17, (by kernel_rfl)
          still_call CD.out
          repeat still_step
          still_call (CW.out _)
          repeat still_step
          refine wpStill_nil ?_
          go_wp2
          go_roundw
          case rel => exact ⟨i + 1, _, _, [], D', cd', by have := of_decide_eq_true iN; omega, by simp, HI2, HWV2, HTV2, HDV2, by simp, HMY.out, ONY, OOY, BY⟩
          case measure => have := of_decide_eq_true iN; simp [intOf]; omega
        | cons d0 dr =>
          obtain ⟨Bt, hrun, hBt, hBl⟩ := run_tail9 (P := Try.prog) Try.underlying23 Try.sizeOf3 MX.m MX.mc (by simp)
          have hdn : drawOf (d0 :: dr) k0 = d0 := rfl
          rw [hdn] at CW
          have HDV2 : Hid (∀ x ∈ dr, 0 ≤ x ∧ x ≤ 1000) := fun x hx => HDV.out x (by simp [hx])
          have CD0 := talkDraw_cons (k := k0) MX.row MX.m hrun
          have MX7 : MW (X.setCell ⟨r, 7, none⟩ (.slice Bt dr.length (cd' - 1))) lo r gq' gw gt k cq O co Bt (cd' - 1) (fO st.ts) wv (tv.set k0 (T0 + 1)) dr st.o (st.h + 1) st.s :=
            ⟨MX.row.draws _, own_set MX.q MX.row (by decide) 7 _, own_set MX.a MX.row (by decide) 7 _, own_set MX.t MX.row (by decide) 7 _, own_set MX.o MX.row (by decide) 7 _,
              (show Has X Bt dr.length (ints .i64 dr) by simpa [ints] using hBt).grown (one_grown9 X r 7 _) (fun x hx e => by
                have e2 : x.block = r := by injection e
                obtain ⟨y, hy, hxy⟩ := hBl x hx
                have := MX.mlo y hy
                have := MX.ge
                omega),
              fun x hx => by obtain ⟨y, hy, hxy⟩ := hBl x hx; rw [hxy]; exact MX.mlo y hy, by have := MX.mc; simp at this; omega, MX.ge, MX.ne, MX.no⟩
          have ON7 := own_set ONX MX.row (by decide) 7 (.slice Bt dr.length (cd' - 1))
          have OO7 := own_set OOX MX.row (by decide) 7 (.slice Bt dr.length (cd' - 1))
          have BL7 := BLX.setCell (p := ⟨r, 7, none⟩) MX.ge (.slice Bt dr.length (cd' - 1))
          obtain ⟨X7, hX7⟩ : ∃ X7, X.setCell ⟨r, 7, none⟩ (.slice Bt dr.length (cd' - 1)) = X7 := ⟨_, rfl⟩
          rw [hX7] at MX7 ON7 OO7 BL7
          have CD := Lib.hid (show Calls Try.prog 65 #[.pointer (some ⟨r, 0, none⟩), .int .i64 (k0 : Int)] X fun e w' => e = .returned (.int .i64 d0) ∧ w' = X7 from CD0.mono fun e w' hh => ⟨hh.1, hh.2.trans hX7⟩)
          have y5 := MX7.row.cells.2.2.2.2.2.1
          have y6 := MX7.row.cells.2.2.2.2.2.2.1
          obtain ⟨u5, hu5, ct3, _⟩ := MX7.t.at_ hk0n
          obtain rfl := ints_at' hu5 (by have := MX7.t.has.len; omega)
          rw [gq_set_eq (by have := MX7.t.has.len; rw [List.length_set] at this; omega)] at ct3
          obtain ⟨u6, hu6, cw3, fw3⟩ := MX7.a.at_ hk0n
          obtain ⟨u4', hu4', cw2', _⟩ := MX.a.at_ hk0n
          have hcw : u4' = u6 := by rw [hu4'] at hu6; exact Option.some.inj hu6
          have MY := MX7.setw k0 wp
          have BY := BL7.setCell (p := ⟨gw, k0, none⟩) MX7.a.block.1 (.int .i64 wp)
          have ONY : Own (X7.setCell ⟨gw, k0, none⟩ (.int .i64 wp)) w.heap.size 3 (some ⟨gN, 0, none⟩) q cN (ints .i64 (nowI st.ts)) := ON7.grown (one_grown9 X7 gw k0 _) (fun a ha e => by
            injection ha with ha; subst ha
            have e2 : gN = gw := by injection e
            have h4 : gw < w.heap.size := hMl.out.a.block.2
            omega)
          have OOY : Own (X7.setCell ⟨gw, k0, none⟩ (.int .i64 wp)) w1.heap.size 3 AO k cO (ints .i64 (wO st.ts)) := OO7.grown (one_grown9 X7 gw k0 _) (fun a ha e => by
            have e2 : a.block = gw := by injection e
            have h3 := OO7.ge (a := w1) (Nat.le_refl _) a ha
            have h4 : gw < w.heap.size := hMl.out.a.block.2
            have := hs12'.out
            omega)
          have z5 := MY.row.cells.2.2.2.2.2.1
          have z6 := MY.row.cells.2.2.2.2.2.2.1
          obtain ⟨u7, hu7, ct4, _⟩ := MY.t.at_ hk0n
          obtain rfl := ints_at' hu7 (by have := MY.t.has.len; omega)
          rw [gq_set_eq (by have := MY.t.has.len; rw [List.length_set] at this; omega)] at ct4
          have HMY := Lib.hid MY
          have HY := Lib.hid (And.intro ONY (And.intro OOY BY))
          have hdr : dr.length ≤ 200 := by simp at hdv; omega
          clear MX MX7 MI MY ONX OOX ON7 OO7 BL7 BLX ONY OOY BY hX7 CD0 hBt hBl hrun hu5 hu6 hu7 hu4' cw2' hdn
          go_wp2
          go_still_tail 14, (by kernel_rfl)
          go_wp2
          subst hX
          go_region_held3 (fun w' => w'.cell? ⟨r, 5, none⟩ = some (.slice (some ⟨gw, 0, none⟩) k k) ∧ w'.cell? ⟨r, 6, none⟩ = some (.slice (some ⟨gt, 0, none⟩) k k) ∧ w'.cell? ⟨gt, k0, none⟩ = some (.int .i64 (T0 + 1))) (first | exact ⟨x5, x6, ct2⟩ | exact ⟨y5, y6, ct3⟩ | exact ⟨z5, z6, ct4⟩) (first | (go_at_call 65; refine CD.out.mono ?_; rintro e w5 ⟨rfl, rfl⟩) | (go_at_call 54; refine (CW.out _).mono ?_; rintro e w5 ⟨rfl, rfl⟩))
          go_wp2
          go_roundw
          case rel => exact ⟨i + 1, _, _, dr, _, _, by have := of_decide_eq_true iN; omega, by simp, HI2, HWV2, HTV2, HDV2, hdr, HMY.out, HY.out.1, HY.out.2.1, HY.out.2.2⟩
          case measure => have := of_decide_eq_true iN; simp [intOf]; omega
end Go.Proofs.Ytpciaokafokfmaa
