/-
  Chapter 9's program, a slot: what is proved here is what the program's slot leaves in memory, and that nothing that was there before the run is written. Condition: at most 6 stations, at most 2000 slots.
-/
import Derived.Test.YtpciaokafokfmaaImp9e
namespace Go.Proofs.Ytpciaokafokfmaa
open Go.RowKit

theorem part_at {a b : List Tk} {k : Nat} {x : Tk} (h : b[k]? = some x) (ha : a.length = k) : (a ++ b.drop k)[k]? = some x := by
  rw [List.getElem?_append_right (by omega), ha, Nat.sub_self, List.getElem?_drop, Nat.add_zero]; exact h
theorem part_set {a b : List Tk} {k : Nat} {x y : Tk} (h : b[k]? = some x) (ha : a.length = k) : (a ++ b.drop k).set k y = (a ++ [y]) ++ b.drop (k + 1) := by
  subst ha
  obtain ⟨hk, _⟩ := List.getElem?_eq_some_iff.1 h
  rw [List.set_append_right _ _ (Nat.le_refl _), Nat.sub_self, List.drop_eq_getElem_cons hk, List.set_cons_zero, List.append_assoc, List.singleton_append]
theorem take_of_len9 {ts : List Tk} {k : Nat} (h : ts.length = k) : ts.take k = ts := List.take_of_length_le (by omega)

theorem after9 {w Y W : World} {lo r g n co cd h s bx : Nat} {O D : Option Addr} {ts : List Tk} {ds os : List Int} {f t v : Int} (MY : IW Y lo r g n O co D cd ts ds os h s) (hb : Y.heap[bx]? = some (.cells #[.int .i64 f, .int .i64 t, .int .i64 v] 70 (0, 0))) (BL : Below lo w Y) (hlo : lo ≤ w.heap.size) (hW : Below Y.heap.size Y W) :
    IW W lo r g n O co D cd ts ds os h s ∧ W.cell? ⟨r, 0, none⟩ = some (.slice (some ⟨g, 0, none⟩) n n) ∧ W.cell? ⟨bx, 0, none⟩ = some (.int .i64 f) ∧ W.cell? ⟨bx, 1, none⟩ = some (.int .i64 t) ∧ W.cell? ⟨bx, 2, none⟩ = some (.int .i64 v) ∧ Below lo w W := by
  have h3 := cells3K ((hW.block _ (Array.getElem?_eq_some_iff.1 hb).1).trans hb)
  exact ⟨MY.bel hW, (MY.bel hW).row.cells.1, h3.1, h3.2.1, h3.2.2, BL.trans (hW.mono (Nat.le_trans hlo BL.size))⟩
theorem slotF_dl (hit : Bool) : ∀ (ts : List Tk) (i : Nat) (ds : List Int), (slotF hit i ts ds).2.1.length ≤ ds.length
  | [], _, _ => Nat.le_refl _
  | x :: r, i, ds => by
    unfold slotF
    split
    · split
      · exact Nat.le_trans (slotF_dl hit r (i + 1) ds.tail) (by simp)
      · exact slotF_dl hit r (i + 1) ds
    · exact slotF_dl hit r (i + 1) ds
theorem part_o (hit : Bool) (ts : List Tk) (ds : List Int) : (slotF hit 0 ts ds).2.2.length ≤ ts.length := by
  rw [slotF_o]; split
  · simp
  · rw [List.length_map]; exact sendersF_len ts 0

set_option maxRecDepth 100000 in
set_option maxHeartbeats 8000000 in
theorem implSlot_any {w : World} {lo r g n co cd : Nat} {O D : Option Addr} {st : TS} (hOK : OkT n st) (hn : n ≤ 6) (hs : st.s ≤ 2000) (hd : st.ds.length ≤ 200) (hlo : lo ≤ w.heap.size)
    (hM : IW w lo r g n O co D cd st.ts st.ds st.o st.h st.s) :
    Calls Try.prog 49 #[.pointer (some ⟨r, 0, none⟩)] w fun e w' => e = .returned (.tuple #[]) ∧ (∃ O' co' D' cd', IW w' lo r g n O' co' D' cd' (slotS st).ts (slotS st).ds (slotS st).o (slotS st).h (slotS st).s) ∧ Below lo w w' := by
  obtain ⟨i0, hi, hz0, hz1, hz2⟩ := info_parts Try.infoInt
  have HOK := Lib.hid hOK
  have HTL := Lib.hid hOK.len
  obtain ⟨hit, hhit⟩ : ∃ hit, hitS st.ts = hit := ⟨_, rfl⟩
  have HH := Lib.hid hhit
  obtain ⟨M, hMM⟩ : ∃ M, maskTo (sb st.ts) n = M := ⟨_, rfl⟩
  have hM64 : M < 64 := by rw [← hMM]; exact maskTo_64 _ hn
  obtain ⟨cnt, hcnt⟩ : ∃ cnt, ones6 M = cnt := ⟨_, rfl⟩
  have hcB : decide ((cnt : Int) > 1) = hit := by
    rw [← hcnt, ← hMM, ← hhit, ← hOK.len]; exact hit_mask (by rw [hOK.len]; exact hn)
  have hcB2 : decide (1 < cnt) = hit := by rw [← hcB]; apply decide_eq_decide.2; omega
  have CM := sending_any hM.row hM.t.has hn
  rw [hMM] at CM
  have CMh := Lib.hid CM
  have CO := Lib.hid (fun W => onesCount_small M hM64 W)
  rw [hcnt] at CO
  have HMM := Lib.hid hMM
  have hMl := Lib.hid hM
  clear hOK hhit hcnt hMM CM hM64
  go_enter Try.func49, Try.ntmps49
  go_wp2_with (fail)
  refine CMh.out.mono ?_
  rintro e w1 ⟨rfl, B1⟩
  go_wp2_with (fail)
  refine (CO.out _).mono ?_
  rintro e w' ⟨rfl, rfl⟩
  have M1 := hMl.out.bel B1
  have c0 := M1.row.cells.1
  have BL1 : Below lo w w1 := B1.mono hlo
  have hr0 : Hid ((slotF hit 0 (st.ts.take 0) st.ds).1 ++ st.ts.drop 0 = st.ts ∧ (slotF hit 0 (st.ts.take 0) st.ds).2.1 = st.ds ∧ st.o ++ (slotF hit 0 (st.ts.take 0) st.ds).2.2 = st.o) := ⟨by simp [slotF], rfl, by simp [slotF]⟩
  have M1' : IW w1 lo r g n O co D cd ((slotF hit 0 (st.ts.take 0) st.ds).1 ++ st.ts.drop 0) (slotF hit 0 (st.ts.take 0) st.ds).2.1 (st.o ++ (slotF hit 0 (st.ts.take 0) st.ds).2.2) st.h st.s := by rw [hr0.out.1, hr0.out.2.1, hr0.out.2.2]; exact M1
  have hgr := M1.gr
  have hrg := Ne.symm hgr
  clear B1 M1 hr0 CMh
  go_wp2
  go_loopw [16] (fun t wr => ∃ (k : Nat) (O' : Option Addr) (co' : Nat) (D' : Option Addr) (cd' : Nat), k ≤ n ∧ t = .int .i64 (k : Int) ∧ IW wr lo r g n O' co' D' cd' ((slotF hit 0 (st.ts.take k) st.ds).1 ++ st.ts.drop k) (slotF hit 0 (st.ts.take k) st.ds).2.1 (st.o ++ (slotF hit 0 (st.ts.take k) st.ds).2.2) st.h st.s ∧ Below lo w wr) (fun t _ => n - (intOf t).toNat)
  case atStart => exact ⟨0, _, _, _, _, Nat.zero_le _, rfl, M1', BL1⟩
  case round =>
    obtain ⟨k, O', co', D', cd', hk, rfl, MK, BK⟩ := hrel
    have sK := BK.size
    by_cases hkn : k < n
    rotate_left
    · have kB : decide ((k : Int) < (n : Int)) = false := by simp; omega
      have kN : decide (k < n) = false := by simp; omega
      obtain rfl : k = n := by omega
      rw [take_of_len9 HTL.out, List.drop_of_length_le (by rw [HTL.out]; omega), List.append_nil] at MK
      have c4 := MK.row.cells.2.2.2.2.1
      have f4 := MK.row.open_ 4
      have sW : IntKind.i64.wrap ((st.s : Int) + 1) = (st.s : Int) + 1 := IntWalk.i64_in _ (by omega)
      have hcast : ((st.s + 1 : Nat) : Int) = (st.s : Int) + 1 := by omega
      have MS := MK.slots (st.s + 1)
      rw [hcast] at MS
      have BS := BK.setCell (p := ⟨r, 4, none⟩) MK.ge (.int .i64 ((st.s : Int) + 1))
      have c3 := MS.row.cells.2.2.2.1
      have f3 := MS.row.open_ 3
      have hh2 : st.h ≤ 2000 := by have := HOK.out.o; omega
      have hW : IntKind.i64.wrap ((st.h : Int) + 1) = (st.h : Int) + 1 := IntWalk.i64_in _ (by omega)
      have hcast2 : ((st.h + 1 : Nat) : Int) = (st.h : Int) + 1 := by omega
      have MH := MS.hits (st.h + 1)
      rw [hcast2] at MH
      have BH := BS.setCell (p := ⟨r, 3, none⟩) MK.ge (.int .i64 ((st.h : Int) + 1))
      have HMS := Lib.hid MS
      have HMH := Lib.hid MH
      clear hcast hcast2 MS MH hkn
      cases hit with
      | false =>
        go_wp2
        refine bodyPost_end (results_none rfl _ _ _) rfl ?_
        refine ⟨rfl, ⟨O', co', D', cd', ?_⟩, BS⟩
        have e1 : (slotS st).h = st.h := by simp [slotS, HH.out]
        have e2 : (slotS st).ts = (slotF false 0 st.ts st.ds).1 := by simp [slotS, HH.out]
        have e3 : (slotS st).ds = (slotF false 0 st.ts st.ds).2.1 := by simp [slotS, HH.out]
        have e4 : (slotS st).o = st.o ++ (slotF false 0 st.ts st.ds).2.2 := by simp [slotS, HH.out]
        rw [e1, e2, e3, e4]
        exact HMS.out
      | true =>
        go_wp2
        refine bodyPost_end (results_none rfl _ _ _) rfl ?_
        refine ⟨rfl, ⟨O', co', D', cd', ?_⟩, BH⟩
        have e1 : (slotS st).h = st.h + 1 := by simp [slotS, HH.out]
        have e2 : (slotS st).ts = (slotF true 0 st.ts st.ds).1 := by simp [slotS, HH.out]
        have e3 : (slotS st).ds = (slotF true 0 st.ts st.ds).2.1 := by simp [slotS, HH.out]
        have e4 : (slotS st).o = st.o ++ (slotF true 0 st.ts st.ds).2.2 := by simp [slotS, HH.out]
        rw [e1, e2, e3, e4]
        exact HMH.out
    have kB : decide ((k : Int) < (n : Int)) = true := by simp; omega
    have kN : decide (k < n) = true := by simp; omega
    have kW : IntKind.i64.wrap ((k : Int) + 1) = ((k + 1 : Nat) : Int) := by rw [IntWalk.i64_in _ (by omega)]; omega
    have bk : (k : Int) < (n : Int) := by omega
    have hk6 : k < 6 := by omega
    obtain ⟨x, hx⟩ : ∃ x, st.ts[k]? = some x := ⟨_, List.getElem?_eq_getElem (by rw [HTL.out]; exact hkn)⟩
    have hal : (slotF hit 0 (st.ts.take k) st.ds).1.length = k := by rw [slotF_len, List.length_take, HTL.out]; omega
    have hsn := slotF_snoc hit st.ts 0 k st.ds x hx
    have HS0 : Hid (sendsT x = false → slotF hit 0 (st.ts.take (k + 1)) st.ds = ((slotF hit 0 (st.ts.take k) st.ds).1 ++ [(x.1, x.2.1, max (x.2.2 - 1) 0)], (slotF hit 0 (st.ts.take k) st.ds).2.1, (slotF hit 0 (st.ts.take k) st.ds).2.2)) := fun hh => by rw [hsn]; simp [hh]
    have HS1 : Hid (sendsT x = true → hit = true → slotF hit 0 (st.ts.take (k + 1)) st.ds = ((slotF hit 0 (st.ts.take k) st.ds).1 ++ [(x.1, x.2.1 + 1, waitP (x.2.1 + 1) (drawOf (slotF hit 0 (st.ts.take k) st.ds).2.1 k))], (slotF hit 0 (st.ts.take k) st.ds).2.1.tail, (slotF hit 0 (st.ts.take k) st.ds).2.2)) := fun hh hh2 => by rw [hsn]; simp [hh, hh2]
    have HS2 : Hid (sendsT x = true → hit = false → slotF hit 0 (st.ts.take (k + 1)) st.ds = ((slotF hit 0 (st.ts.take k) st.ds).1 ++ [(x.1 - 1, 0, 0)], (slotF hit 0 (st.ts.take k) st.ds).2.1, (slotF hit 0 (st.ts.take k) st.ds).2.2 ++ [(k : Int)])) := fun hh hh2 => by rw [hsn]; simp [hh, hh2]
    clear hsn
    have HPS := Lib.hid (fun y => part_set (y := y) hx hal)
    have hmx := List.mem_of_getElem? hx
    have hxf := HOK.out.f x hmx
    have hxt := HOK.out.t x hmx
    have hxw := HOK.out.w x hmx
    have hrol : (slotF hit 0 (st.ts.take k) st.ds).2.2.length ≤ 6 := by have h1 := part_o hit (st.ts.take k) st.ds; rw [List.length_take] at h1; omega
    have hrdl : (slotF hit 0 (st.ts.take k) st.ds).2.1.length ≤ 200 := by have h1 := MK.mc; have h2 := slotF_dl hit (st.ts.take k) 0 st.ds; omega
    have hol : st.o.length ≤ 2000 := by have := HOK.out.o; omega
    have hdsok : Hid (∀ y ∈ (slotF hit 0 (st.ts.take k) st.ds).2.1, 0 ≤ y ∧ y ≤ 1000) := fun y hy => HOK.out.d y (slotF_ds _ _ _ _ y hy)
    have hAND := and_mask9 (f := sb st.ts) hn hkn
    rw [HMM.out, sb_at hx] at hAND
    obtain ⟨b, o', f, t, v, hA, hbl, hx2, c0', c1', c2'⟩ := MK.t.has.at_ hkn
    injection hA with hA
    injection hA with q1 q2
    subst q1 q2
    obtain rfl : x = (f, t, v) := by
      have := part_at hx hal
      rw [this] at hx2
      injection hx2
    rw [Nat.zero_add] at c0' c1' c2'
    dsimp only at hxf hxt hxw HS0 HS1 HS2
    -- the station's own variable
    obtain ⟨W2, hW2⟩ : ∃ W2, wr.alloc (.cells #[.int .i64 f, .int .i64 t, .int .i64 v] 70) = W2 := ⟨_, rfl⟩
    have hX : W2.heap[wr.heap.size]? = some (.cells #[.int .i64 f, .int .i64 t, .int .i64 v] 70 (0, 0)) := hW2 ▸ heap_alloc_new wr _
    have B2 : Below wr.heap.size wr W2 := hW2 ▸ (Below.refl _ _).alloc (Nat.le_refl _) _
    have hs2 : wr.heap.size < W2.heap.size := by rw [← hW2]; simp
    have M2 := MK.bel B2
    have BL2 : Below lo w W2 := BK.trans (B2.mono (by omega))
    generalize (slotF hit 0 (st.ts.take k) st.ds).1 = ra at *
    generalize (slotF hit 0 (st.ts.take k) st.ds).2.1 = rd at *
    generalize (slotF hit 0 (st.ts.take k) st.ds).2.2 = ro at *
    have hgb : g ≠ wr.heap.size := by have := MK.t.lt9.2; omega
    have hrb : r ≠ wr.heap.size := by have := MK.row.lt; omega
    -- the region's first world
    obtain ⟨X, hXX⟩ : ∃ X, W2.drew = X := ⟨_, rfl⟩
    have BX : Below W2.heap.size W2 X := hXX ▸ below_drewN _ 1
    have MX := M2.bel BX
    have hXb := (BX.block _ hs2).trans hX
    have BLX : Below lo w X := BL2.trans (BX.mono (Nat.le_trans hlo BL2.size))
    obtain ⟨y0, y1, y2⟩ := cells3K hXb
    obtain ⟨z0, z1, z2⟩ := cells3K hX
    have x0 := MX.row.cells.1
    have a0 := M2.row.cells.1
    have hXs : wr.heap.size < X.heap.size := Nat.lt_of_lt_of_le hs2 BX.size
    -- behind a call that only lays memory, and behind the store
    have AF := Lib.hid (fun (W : World) (hW : Below X.heap.size X W) => after9 MX hXb BLX hlo hW)
    have HMX := Lib.hid MX
    have HXB := Lib.hid hXb
    have HBX := Lib.hid BLX
    clear M2 hX hXb BLX
    cases hsd : sendsT (f, t, v) with
    | false =>
      rw [hsd] at hAND
      have hA0 : bits .and .u64 (M : Int) (IntKind.u64.wrap (2 ^ k)) = 0 := by rw [hAND]; rfl
      have HN := Lib.hid (HS0.out hsd)
      have C := Lib.hid (fun W => idle_any f t v W (by omega))
      have HP := Lib.hid (HPS.out (f, t, max (v - 1) 0))
      obtain ⟨mv, hmv⟩ : ∃ mv, max (v - 1) 0 = mv := ⟨_, rfl⟩
      rw [hmv] at C HN HP
      clear hAND hsd HS0 HS1 HS2 HPS hmv hxf hxt hxw
      go_wp2
      subst hXX
      go_region_held3 (fun w' => w'.cell? ⟨r, 0, none⟩ = some (.slice (some ⟨g, 0, none⟩) n n) ∧ w'.cell? ⟨wr.heap.size, 0, none⟩ = some (.int .i64 f) ∧ w'.cell? ⟨wr.heap.size, 1, none⟩ = some (.int .i64 t) ∧ w'.cell? ⟨wr.heap.size, 2, none⟩ = some (.int .i64 v)) (first | exact ⟨x0, y0, y1, y2⟩ | exact ⟨s0, s1, s2, s3⟩ | exact ⟨far3 (x := (f, t, mv)) hgr s0, far3 (x := (f, t, mv)) hgb s1, far3 (x := (f, t, mv)) hgb s2, far3 (x := (f, t, mv)) hgb s3⟩) (first | (go_at_call 61; refine (C.out _).mono ?_; rintro e w5 ⟨rfl, B5⟩; obtain ⟨M5, s0, s1, s2, s3, BL5⟩ := AF.out w5 B5; obtain ⟨⟨u0, u1, u2⟩, p0, p1, p2⟩ := M5.t.cells hkn; have fz := World.ownsRow.frozenAt M5.t))
      have MP := M5.put k (f, t, mv)
      have HMP : Hid (IW (put3 w5 g k (f, t, mv)) lo r g n O' co' D' cd' ((slotF hit 0 (st.ts.take (k + 1)) st.ds).1 ++ st.ts.drop (k + 1)) (slotF hit 0 (st.ts.take (k + 1)) st.ds).2.1 (st.o ++ (slotF hit 0 (st.ts.take (k + 1)) st.ds).2.2) st.h st.s) := by
        have h1 := MP.1
        rw [HP.out] at h1
        rw [HN.out]; exact h1
      have HBP : Hid (Below lo w (put3 w5 g k (f, t, mv))) := BL5.trans (below_of_grown MP.2 (Nat.le_trans hlo BL5.size) (fun j hj => by injection hj with hj; have := M5.t.lt9.1; omega))
      clear MP
      go_wp2
      go_roundw
      case rel => exact ⟨k + 1, _, _, _, _, by have := of_decide_eq_true kN; omega, by simp, HMP.out, HBP.out⟩
      case measure => have := of_decide_eq_true kN; simp [intOf]; omega
    | true =>
      rw [hsd] at hAND
      have hA0 : bits .and .u64 (M : Int) (IntKind.u64.wrap (2 ^ k)) = ((2 ^ k : Nat) : Int) := by rw [hAND]; rfl
      have hp2 : 0 < 2 ^ k := Nat.pow_pos (by omega)
      obtain ⟨pk, hpk⟩ : ∃ pk, 2 ^ k = pk := ⟨_, rfl⟩
      rw [hpk] at hA0 hp2
      have hpB : ((pk : Int) == 0) = false := by simp; omega
      have hpC : (pk == 0) = false := by simp; omega
      have HPK := Lib.hid hpk
      clear hAND hpk
      cases hit with
      | false =>
        have HN := Lib.hid (HS2.out hsd rfl)
        have C := Lib.hid (fun W => sent_any f t v W (by omega))
        have HP := Lib.hid (HPS.out (f - 1, 0, 0))
        obtain ⟨os, hos⟩ : ∃ os, st.o ++ ro = os := ⟨_, rfl⟩
        have hosl : os.length ≤ 2006 := by rw [← hos, List.length_append]; omega
        rw [hos] at HMX AF
        have HOS := Lib.hid hos
        clear hsd HS0 HS1 HS2 HPS hxf hxt hxw hos
        go_wp2
        subst hXX
        go_region_held3 (fun w' => w'.cell? ⟨r, 0, none⟩ = some (.slice (some ⟨g, 0, none⟩) n n) ∧ w'.cell? ⟨wr.heap.size, 0, none⟩ = some (.int .i64 f) ∧ w'.cell? ⟨wr.heap.size, 1, none⟩ = some (.int .i64 t) ∧ w'.cell? ⟨wr.heap.size, 2, none⟩ = some (.int .i64 v)) (first | exact ⟨x0, y0, y1, y2⟩ | exact ⟨s0, s1, s2, s3⟩ | exact ⟨far3 (x := (f - 1, 0, 0)) hgr s0, far3 (x := (f - 1, 0, 0)) hgb s1, far3 (x := (f - 1, 0, 0)) hgb s2, far3 (x := (f - 1, 0, 0)) hgb s3⟩) (first | (go_at_call 64; refine (C.out _).mono ?_; rintro e w5 ⟨rfl, B5⟩; obtain ⟨M5, s0, s1, s2, s3, BL5⟩ := AF.out w5 B5; obtain ⟨⟨u0, u1, u2⟩, p0, p1, p2⟩ := M5.t.cells hkn; have fz := World.ownsRow.frozenAt M5.t))
        have MP := M5.put k (f - 1, 0, 0)
        have hBP : Below lo w (put3 w5 g k (f - 1, 0, 0)) := BL5.trans (below_of_grown MP.2 (Nat.le_trans hlo BL5.size) (fun j hj => by injection hj with hj; have := M5.t.lt9.1; omega))
        obtain ⟨P5, hP5⟩ : ∃ P5, put3 w5 g k (f - 1, 0, 0) = P5 := ⟨_, rfl⟩
        rw [hP5] at MP hBP
        have MPP := MP.1
        rw [HP.out] at MPP
        unfold put3 at hP5
        dsimp only at hP5
        have e2 := MPP.row.cells.2.2.1
        have sP : lo ≤ P5.heap.size := Nat.le_trans hlo hBP.size
        clear MP s0 s1 s2 s3 p0 p1 p2 fz M5 BL5 y0 y1 y2 x0
        go_wp2_with (at_builtin; refine wpList_apps _ rfl (.tmp 34) (.tmp 36) 23 rfl lo 3 i0 (.int .i64 0) 8 Try.underlying23 hi hz0 hz1 hz2 rfl O' os.length co' _ rfl MPP.o 1 1 #[.int .i64 (k : Int)] rfl rfl (by simp [Value.oneCell']) (by decide) (by omega) (by decide) sP ?_; intro g8 c8 w8 O8 G8 B8 E8; have k8 := MPP.row.grown G8 (own_not9 MPP.o MPP.row (by decide)); have j0 := k8.cells.2.2.1; have j1 := k8.open_ 2)
        have M8 := MPP.order G8 O8
        have HM8 : Hid (IW (w8.setCell ⟨r, 2, none⟩ (.slice (some ⟨g8, 0, none⟩) (os.length + 1) c8)) lo r g n (some ⟨g8, 0, none⟩) c8 D' cd' ((slotF false 0 (st.ts.take (k + 1)) st.ds).1 ++ st.ts.drop (k + 1)) (slotF false 0 (st.ts.take (k + 1)) st.ds).2.1 (st.o ++ (slotF false 0 (st.ts.take (k + 1)) st.ds).2.2) st.h st.s) := by
          rw [HN.out]
          dsimp only
          rw [← List.append_assoc, HOS.out]
          exact M8
        have HB8 : Hid (Below lo w (w8.setCell ⟨r, 2, none⟩ (.slice (some ⟨g8, 0, none⟩) (os.length + 1) c8))) := (hBP.trans B8).setCell (p := ⟨r, 2, none⟩) hMl.out.ge _
        go_roundw
        case rel => exact ⟨k + 1, _, _, _, _, by have := of_decide_eq_true kN; omega, by simp, HM8.out, HB8.out⟩
        case measure => have := of_decide_eq_true kN; simp [intOf]; omega
      | true =>
        have HN := Lib.hid (HS1.out hsd rfl)
        have hdb : 0 ≤ drawOf rd k ∧ drawOf rd k ≤ 1000 := drawOf_b hdsok.out hk6
        obtain ⟨dv, hdv⟩ : ∃ dv, drawOf rd k = dv := ⟨_, rfl⟩
        rw [hdv] at HN hdb
        have C := Lib.hid (fun W => hit_any f t v dv W (by omega) hdb)
        have HP := Lib.hid (HPS.out (f, t + 1, waitP (t + 1) dv))
        obtain ⟨wp, hwp⟩ : ∃ wp, waitP (t + 1) dv = wp := ⟨_, rfl⟩
        rw [hwp] at C HP HN
        have HDV := Lib.hid hdv
        clear hsd HS0 HS1 HS2 HPS hxf hxt hxw hdb hdv hwp
        cases rd with
        | nil =>
          have CN := Lib.hid (next_nil (k := k) hk6 (show X.cell? ⟨r, 1, none⟩ = some (.slice D' 0 cd') from HMX.out.row.cells.2.1))
          obtain rfl : 33 * (k : Int) = dv := HDV.out
          go_wp2
          subst hXX
          go_region_held3 (fun w' => w'.cell? ⟨r, 0, none⟩ = some (.slice (some ⟨g, 0, none⟩) n n) ∧ w'.cell? ⟨wr.heap.size, 0, none⟩ = some (.int .i64 f) ∧ w'.cell? ⟨wr.heap.size, 1, none⟩ = some (.int .i64 t) ∧ w'.cell? ⟨wr.heap.size, 2, none⟩ = some (.int .i64 v)) (first | exact ⟨x0, y0, y1, y2⟩ | exact ⟨s0, s1, s2, s3⟩ | exact ⟨far3 (x := (f, t + 1, wp)) hgr s0, far3 (x := (f, t + 1, wp)) hgb s1, far3 (x := (f, t + 1, wp)) hgb s2, far3 (x := (f, t + 1, wp)) hgb s3⟩) (first | (go_at_call 63; refine CN.out.mono ?_; rintro e w5 ⟨rfl, rfl⟩) | (go_at_call 62; refine (C.out _).mono ?_; rintro e w5 ⟨rfl, B5⟩; obtain ⟨M5, s0, s1, s2, s3, BL5⟩ := AF.out w5 B5; obtain ⟨⟨u0, u1, u2⟩, p0, p1, p2⟩ := M5.t.cells hkn; have fz := World.ownsRow.frozenAt M5.t))
          have MP := M5.put k (f, t + 1, wp)
          have HMP : Hid (IW (put3 w5 g k (f, t + 1, wp)) lo r g n O' co' D' cd' ((slotF true 0 (st.ts.take (k + 1)) st.ds).1 ++ st.ts.drop (k + 1)) (slotF true 0 (st.ts.take (k + 1)) st.ds).2.1 (st.o ++ (slotF true 0 (st.ts.take (k + 1)) st.ds).2.2) st.h st.s) := by
            have h1 := MP.1
            rw [HP.out] at h1
            rw [HN.out]; exact h1
          have HBP : Hid (Below lo w (put3 w5 g k (f, t + 1, wp))) := BL5.trans (below_of_grown MP.2 (Nat.le_trans hlo BL5.size) (fun j hj => by injection hj with hj; have := M5.t.lt9.1; omega))
          clear MP
          go_wp2
          go_roundw
          case rel => exact ⟨k + 1, _, _, _, _, by have := of_decide_eq_true kN; omega, by simp, HMP.out, HBP.out⟩
          case measure => have := of_decide_eq_true kN; simp [intOf]; omega
        | cons d0 dr =>
          obtain rfl : d0 = dv := HDV.out
          obtain ⟨Bt, hrun, hBt, hBl⟩ := run_tail9 (P := Try.prog) (t := 58) Try.underlying58 Try.sizeOf3 HMX.out.m HMX.out.mc (by simp)
          have CN0 := next_cons (k := k) HMX.out.row.cells.2.1 (HMX.out.row.open_ 1) HMX.out.m (fun a ha => by have h1 := HMX.out.mlo a ha; have h2 := HMX.out.ge; omega) hrun
          have hdrl : dr.length ≤ cd' - 1 := by have := HMX.out.mc; simp at this; omega
          have hDr : Has X Bt dr.length (ints .i64 dr) := by simpa [ints] using hBt
          have hDl : ∀ x, Bt = some x → x.block < lo := fun x hx => by obtain ⟨y, hy, hxy⟩ := hBl x hx; rw [hxy]; exact HMX.out.mlo y hy
          have MX7 := HMX.out.cell 1 (.slice Bt dr.length (cd' - 1)) (ds' := dr) (D' := Bt) (cd' := cd' - 1) (O' := O') (co' := co') (os' := st.o ++ ro) (h' := st.h) (s' := st.s) (HMX.out.row.draws _) HMX.out.o hDr hDl hdrl
          have BL7 := HBX.out.setCell (p := ⟨r, 1, none⟩) HMX.out.ge (.slice Bt dr.length (cd' - 1))
          have hX7 : (X.setCell ⟨r, 1, none⟩ (.slice Bt dr.length (cd' - 1))).heap[wr.heap.size]? = some (.cells #[.int .i64 f, .int .i64 t, .int .i64 v] 70 (0, 0)) := (heap_setCell_other X ⟨r, 1, none⟩ _ _ (Ne.symm hrb)).trans HXB.out
          obtain ⟨X7, hX7e⟩ : ∃ X7, X.setCell ⟨r, 1, none⟩ (.slice Bt dr.length (cd' - 1)) = X7 := ⟨_, rfl⟩
          rw [hX7e] at MX7 BL7 hX7 CN0
          have CN := Lib.hid CN0
          have AF7 := Lib.hid (fun (W : World) (hW : Below X7.heap.size X7 W) => after9 MX7 hX7 BL7 hlo hW)
          have xx0 := MX7.row.cells.1
          obtain ⟨yy0, yy1, yy2⟩ := cells3K hX7
          clear CN0 hrun hBt hBl hDr hDl MX7 BL7 hX7 hX7e AF hdrl
          go_wp2
          subst hXX
          go_region_held3 (fun w' => w'.cell? ⟨r, 0, none⟩ = some (.slice (some ⟨g, 0, none⟩) n n) ∧ w'.cell? ⟨wr.heap.size, 0, none⟩ = some (.int .i64 f) ∧ w'.cell? ⟨wr.heap.size, 1, none⟩ = some (.int .i64 t) ∧ w'.cell? ⟨wr.heap.size, 2, none⟩ = some (.int .i64 v)) (first | exact ⟨x0, y0, y1, y2⟩ | exact ⟨xx0, yy0, yy1, yy2⟩ | exact ⟨s0, s1, s2, s3⟩ | exact ⟨far3 (x := (f, t + 1, wp)) hgr s0, far3 (x := (f, t + 1, wp)) hgb s1, far3 (x := (f, t + 1, wp)) hgb s2, far3 (x := (f, t + 1, wp)) hgb s3⟩) (first | (go_at_call 63; refine CN.out.mono ?_; rintro e w4 ⟨rfl, rfl⟩) | (go_at_call 62; refine (C.out _).mono ?_; rintro e w5 ⟨rfl, B5⟩; obtain ⟨M5, s0, s1, s2, s3, BL5⟩ := AF7.out w5 B5; obtain ⟨⟨u0, u1, u2⟩, p0, p1, p2⟩ := M5.t.cells hkn; have fz := World.ownsRow.frozenAt M5.t))
          have MP := M5.put k (f, t + 1, wp)
          have HMP : Hid (IW (put3 w5 g k (f, t + 1, wp)) lo r g n O' co' Bt (cd' - 1) ((slotF true 0 (st.ts.take (k + 1)) st.ds).1 ++ st.ts.drop (k + 1)) (slotF true 0 (st.ts.take (k + 1)) st.ds).2.1 (st.o ++ (slotF true 0 (st.ts.take (k + 1)) st.ds).2.2) st.h st.s) := by
            have h1 := MP.1
            rw [HP.out] at h1
            rw [HN.out]; exact h1
          have HBP : Hid (Below lo w (put3 w5 g k (f, t + 1, wp))) := BL5.trans (below_of_grown MP.2 (Nat.le_trans hlo BL5.size) (fun j hj => by injection hj with hj; have := M5.t.lt9.1; omega))
          clear MP
          go_wp2
          go_roundw
          case rel => exact ⟨k + 1, _, _, _, _, by have := of_decide_eq_true kN; omega, by simp, HMP.out, HBP.out⟩
          case measure => have := of_decide_eq_true kN; simp [intOf]; omega
end Go.Proofs.Ytpciaokafokfmaa
