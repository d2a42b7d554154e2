/-
  DecodeBytes of the program and of its model: what is proved here is what it returns. Conditions: lengths up to 2^24; the table holds what the program's text lays.
-/
import Derived.Test.YtpbiomlohgcjdaaDoorCode
namespace Go.Proofs.YtpbiomlohgcjdaaDoor
open Go.RowKit

def nibs (l : List Int) : Int := l.foldl (fun a z => 16 * a + decN z) 0
def decTo (zs : List Int) (m k : Nat) : List Int := (List.range m).map fun i => nibs (((zs.take k).drop (2 * i)).take 2)
def cnt1 (z : Int) : Int := if 0 < decAt z then 1 else 0
def cntTo (zs : List Int) (k : Nat) : Int := ((zs.take k).map cnt1).sum
def Sevens (zs : List Int) : Prop := ∀ z ∈ zs, z ≤ 127
def GoodCode (zs : List Int) : Prop := zs.length % 2 = 0 ∧ zs.length ≤ 1200 ∧ Sevens zs
open Classical in
noncomputable def decB (zs : List Int) : List Int := if GoodCode zs then decTo zs (zs.length / 2) zs.length else []
open Classical in
noncomputable def decM (zs : List Int) : Int := if GoodCode zs then cntTo zs zs.length else -1
theorem decB_le (zs : List Int) : (decB zs).length ≤ 600 := by
  unfold decB; split
  · rename_i h; have := h.2.1; simp [decTo]; omega
  · simp
theorem nibs_snoc (l : List Int) (z : Int) : nibs (l ++ [z]) = 16 * nibs l + decN z := by simp [nibs]
theorem decN_b (z : Int) (h0 : 0 ≤ z) (h1 : z ≤ 127) : 0 ≤ decN z ∧ decN z ≤ 15 := by
  unfold decN; rw [if_pos ⟨h0, h1⟩]; exact four_b _
theorem decAt_b (z : Int) (h0 : 0 ≤ z) (h1 : z ≤ 127) : 0 ≤ decAt z ∧ decAt z ≤ 7 := by
  unfold decAt; rw [if_pos ⟨h0, h1⟩]; exact fault_b _
theorem decTo_length (zs : List Int) (m k : Nat) : (decTo zs m k).length = m := by simp [decTo]
theorem decTo_at (zs : List Int) (m k i : Nat) (h : i < m) : (decTo zs m k)[i]? = some (nibs (((zs.take k).drop (2 * i)).take 2)) := by simp [decTo, h]
theorem decTo_zero (zs : List Int) (m : Nat) : decTo zs m 0 = List.replicate m 0 := by
  apply List.ext_getElem?; intro i
  by_cases h : i < m
  · rw [decTo_at _ _ _ _ h]; simp [h, nibs]
  · simp [decTo, h]
theorem two_snoc (zs : List Int) (k : Nat) (z : Int) (h : zs[k]? = some z) : (((zs.take (k + 1)).drop (2 * (k / 2))).take 2) = (((zs.take k).drop (2 * (k / 2))).take 2) ++ [z] := by
  have hl : k < zs.length := (List.getElem?_eq_some_iff.1 h).1
  rw [show zs.take (k + 1) = zs.take k ++ [z] by rw [List.take_add_one, h]; rfl, List.drop_append_of_le_length (by simp; omega)]
  have h1 : ((zs.take k).drop (2 * (k / 2)) ++ [z]).take 2 = (zs.take k).drop (2 * (k / 2)) ++ [z] := List.take_of_length_le (by simp; omega)
  have h2 : ((zs.take k).drop (2 * (k / 2))).take 2 = (zs.take k).drop (2 * (k / 2)) := List.take_of_length_le (by simp; omega)
  rw [h1, h2]
theorem two_other (zs : List Int) (k i : Nat) (h : i ≠ k / 2) : (((zs.take (k + 1)).drop (2 * i)).take 2) = (((zs.take k).drop (2 * i)).take 2) := by
  apply List.ext_getElem?; intro j
  simp only [List.getElem?_take, List.getElem?_drop]
  by_cases hj : j < 2
  · simp only [hj, if_true]
    by_cases h1 : 2 * i + j < k
    · rw [if_pos (by omega), if_pos h1]
    · rw [if_neg (by omega), if_neg h1]
  · simp [hj]
theorem decTo_succ (zs : List Int) (m k : Nat) (z : Int) (h : zs[k]? = some z) :
    decTo zs m (k + 1) = (decTo zs m k).set (k / 2) (16 * nibs (((zs.take k).drop (2 * (k / 2))).take 2) + decN z) := by
  apply List.ext_getElem?; intro i
  by_cases hi : i < m
  · by_cases hk : i = k / 2
    · subst hk
      rw [List.getElem?_set_self (by rw [decTo_length]; exact hi), decTo_at _ _ _ _ hi, two_snoc zs k z h, nibs_snoc]
    · rw [List.getElem?_set_ne (by omega), decTo_at _ _ _ _ hi, decTo_at _ _ _ _ hi, two_other zs k i hk]
  · rw [List.getElem?_eq_none (by rw [decTo_length]; omega), List.getElem?_eq_none (by rw [List.length_set, decTo_length]; omega)]
theorem Sevens.snoc {zs : List Int} {k : Nat} {z : Int} (h : Sevens (zs.take k)) (hx : zs[k]? = some z) (hz : z ≤ 127) : Sevens (zs.take (k + 1)) := by
  rw [show zs.take (k + 1) = zs.take k ++ [z] by rw [List.take_add_one, hx]; rfl]
  intro y hy
  rcases List.mem_append.1 hy with hy | hy
  · exact h y hy
  · rw [List.mem_singleton.1 hy]; exact hz
theorem cntTo_succ (zs : List Int) (k : Nat) (z : Int) (h : zs[k]? = some z) : cntTo zs (k + 1) = cntTo zs k + cnt1 z := by
  unfold cntTo; rw [List.take_add_one, h]; simp
theorem cntTo_b (zs : List Int) (k : Nat) : 0 ≤ cntTo zs k ∧ cntTo zs k ≤ k := by
  have h := sum01 ((zs.take k).map cnt1) (fun b hb => by
    simp only [List.mem_map] at hb
    obtain ⟨z, _, rfl⟩ := hb
    unfold cnt1; split <;> simp)
  rw [List.length_map] at h
  have hl : (zs.take k).length ≤ k := List.length_take_le _ _
  unfold cntTo; omega
/-- The half of a byte that is there already: one number of four bits, or nothing. -/
theorem half_b (zs : List Int) (k : Nat) (hk : k ≤ zs.length) (hs : Sevens (zs.take k)) (hu : U8s zs) : 0 ≤ nibs (((zs.take k).drop (2 * (k / 2))).take 2) ∧ nibs (((zs.take k).drop (2 * (k / 2))).take 2) ≤ 15 := by
  have hl : (((zs.take k).drop (2 * (k / 2))).take 2).length ≤ 1 := by simp; omega
  generalize hg : ((zs.take k).drop (2 * (k / 2))).take 2 = l at *
  match l, hl with
  | [], _ => simp [nibs]
  | [z], _ =>
    have hm : z ∈ zs.take k := List.mem_of_mem_drop (List.mem_of_mem_take (by rw [hg]; simp))
    have := decN_b z (hu z (List.mem_of_mem_take hm)).1 (hs z hm)
    simp [nibs]; omega
theorem or16 (p q : Int) (h0 : 0 ≤ p) (h1 : p ≤ 15) (q0 : 0 ≤ q) (q1 : q ≤ 15) : bits .or .u8 (p * 16) q = 16 * p + q := by
  have h : ∀ a b : Fin 16, bits .or .u8 ((a.val : Int) * 16) (b.val : Int) = 16 * (a.val : Int) + (b.val : Int) := by decide +kernel
  have h2 := h ⟨p.toNat, by omega⟩ ⟨q.toNat, by omega⟩
  rwa [show ((p.toNat : Nat) : Int) = p by omega, show ((q.toNat : Nat) : Int) = q by omega] at h2
theorem dec_no {zs : List Int} {lo c : Nat} {A : Option Addr} {w w' : World} (hbad : ¬ GoodCode zs) (hb : Below lo w w') (ho : Own w' lo 5 A 0 c []) :
    ∃ A' n' c', Ending.returned (.tuple #[.slice A 0 c, .int .i64 (-1)]) = .returned (.tuple #[.slice A' n' c', .int .i64 (decM zs)]) ∧ Own w' lo 5 A' n' c' (ints .u8 (decB zs)) ∧ Below lo w w' :=
  ⟨A, 0, c, by rw [show decM zs = -1 by simp [decM, hbad]], by rw [show decB zs = [] by simp [decB, hbad]]; exact ho, hb⟩
theorem dec_yes {zs : List Int} {lo m k c : Nat} {A : Option Addr} {w w' : World} (hg : GoodCode zs) (hk : zs.length = k) (ho : Own w' lo 5 A m c (ints .u8 (decTo zs (k / 2) k))) (hb : Below lo w w') :
    ∃ A' n' c', Ending.returned (.tuple #[.slice A m c, .int .i64 (cntTo zs k)]) = .returned (.tuple #[.slice A' n' c', .int .i64 (decM zs)]) ∧ Own w' lo 5 A' n' c' (ints .u8 (decB zs)) ∧ Below lo w w' := by
  subst hk
  exact ⟨A, m, c, by rw [show decM zs = cntTo zs zs.length by simp [decM, hg]], by rw [show decB zs = decTo zs (zs.length / 2) zs.length by simp [decB, hg]]; exact ho, hb⟩

set_option maxHeartbeats 2000000 in
theorem implDecodeBytes_any {A : Option Addr} {n c : Nat} {zs : List Int} {w : World} (hT : RowsIn w) (h : Has w A n (ints .u8 zs)) (hu : U8s zs) (hn : n ≤ 16777216) :
    Calls Tryd.prog 5 #[.slice A n c] w fun e w' => ∃ A' n' c', e = .returned (.tuple #[.slice A' n' c', .int .i64 (decM zs)]) ∧ Own w' w.heap.size 5 A' n' c' (ints .u8 (decB zs)) ∧ Below w.heap.size w w' := by
  obtain ⟨i0, hi, hz0, hz1, hz2⟩ := info_parts Tryd.infoU8
  have HL := Lib.hid h.len
  by_cases hd : n % 2 = 0 ∧ n ≤ 1200
  · obtain ⟨hd8, hd4⟩ := hd
    have hdec : decide ((1200 : Int) < (n : Int)) = false := by simp; omega
    go_enter Tryd.func5, Tryd.ntmps5
    go_wp2_with (refine wpList_make_full _ rfl _ _ 22 rfl w.heap.size 5 i0 (.int .u8 0) 1 Tryd.underlying22 hi hz0 hz1 .i64 .i64 _ _ (n / 2) rfl rfl (by omega) (by omega) (by rw [hz2]; omega) (by unfold maxLen; omega) (Nat.le_refl _) ?_; intro w1 hown hgrow)
    have hcap : (madeCells (Value.cells (.int .u8 0)) (n / 2 * 1)).toList = ints .u8 (decTo zs (n / 2) 0) := by
      rw [Nat.mul_one, decTo_zero, show ints .u8 (List.replicate (n / 2) 0) = List.replicate (n / 2) (.int .u8 0) by simp [ints]]; exact toList_madeCells_one _ _
    have hown0 : Own w1 w.heap.size 5 (some ⟨w.heap.size, 0, none⟩) (n / 2) (n / 2) (ints .u8 (decTo zs (n / 2) 0)) := by unfold Own; rw [← hcap]; exact hown
    have hb0 : Below w.heap.size w w1 := below_of_grown hgrow (Nat.le_refl _) (fun k hk => by cases hk)
    clear hown hgrow hcap hi hz0 hz1 hz2
    go_loopw [5, 25] (fun v i wr => ∃ k : Nat, k ≤ n ∧ i = .int .i64 k ∧ v = .int .i64 (cntTo zs k) ∧ Sevens (zs.take k) ∧ Own wr w.heap.size 5 (some ⟨w.heap.size, 0, none⟩) (n / 2) (n / 2) (ints .u8 (decTo zs (n / 2) k)) ∧ Below w.heap.size w wr) (fun _ i _ => n - (intOf i).toNat)
    case atStart => exact ⟨0, Nat.zero_le _, rfl, rfl, by simp [Sevens], hown0, hb0⟩
    case round =>
      obtain ⟨k, hk, rfl, rfl, hs, hown, hb⟩ := hrel
      obtain ⟨cb0, cb1⟩ := cntTo_b zs k
      by_cases hlt : k < n
      · obtain ⟨b, o, z, rfl, hbl, hx, hc⟩ := h.at_ hlt
        have hc1 := (hb.cell (p := ⟨b, o + k, none⟩) hbl).trans hc
        obtain ⟨z0, z1⟩ := hu z (List.mem_of_getElem? hx)
        have hT1 := hT.bel hb
        have hdecB : -9223372036854775808 ≤ z ∧ z ≤ 9223372036854775807 := by omega
        by_cases hz : z ≤ 127
        · have HS := Lib.hid (decTo_succ zs (n / 2) k z hx)
          have HB := Lib.hid (hs.snoc hx hz)
          have HC := Lib.hid (cntTo_succ zs k z hx)
          obtain ⟨u, hu1, hd1, hf⟩ := hown.at_ (k := k / 2) (by omega)
          obtain ⟨p0, p1⟩ := half_b zs k (by rw [HL.out]; omega) hs hu
          have hpa := decTo_at zs (n / 2) k (k / 2) (by omega)
          generalize hp : nibs (((zs.take k).drop (2 * (k / 2))).take 2) = p at *
          rw [show (ints .u8 (decTo zs (n / 2) k))[k / 2]? = some (.int .u8 p) by simp [ints, hpa]] at hu1
          obtain rfl : Value.int .u8 p = u := by injection hu1
          obtain ⟨q0, q1⟩ := decN_b z z0 hz
          obtain ⟨t0, t1⟩ := decAt_b z z0 hz
          have HO := Lib.hid (or16 p (decN z) p0 p1 q0 q1)
          have HK := Lib.hid (show cnt1 z = if 0 < decAt z then 1 else 0 from rfl)
          clear hu1 hpa hp hx hc
          go_wp2_with (fail)
          refine (implDecodeNibble_any hT1 hdecB).mono ?_
          rintro e w' ⟨rfl, rfl⟩
          generalize decN z = q at *
          generalize decAt z = t at *
          by_cases ht : 0 < t
          · go_wp2
            go_roundw
            case rel => exact ⟨k + 1, by omega, by go_num, by rw [HC.out, HK.out, if_pos ht], HB.out, by rw [HS.out, HO.out, ← ints_set]; exact hown.set_ _ _, hb.setCell (Nat.le_refl _) _⟩
            case measure => simp [intOf]; omega
          · go_wp2
            go_roundw
            case rel => exact ⟨k + 1, by omega, by go_num, by rw [HC.out, HK.out, if_neg (by omega)]; simp, HB.out, by rw [HS.out, HO.out, ← ints_set]; exact hown.set_ _ _, hb.setCell (Nat.le_refl _) _⟩
            case measure => simp [intOf]; omega
        · have hbad : ¬ GoodCode zs := fun hg => hz (hg.2.2 z (List.mem_of_getElem? hx))
          have HB := Lib.hid hbad
          have ha : decAt z = -1 := by unfold decAt; rw [if_neg (by omega)]
          clear hbad hx hc
          go_wp2_with (fail)
          refine (implDecodeNibble_any hT1 hdecB).mono ?_
          rintro e w' ⟨rfl, rfl⟩
          go_wp2
          go_ret2
          exact dec_no HB.out hb (World.ownsRow_nil _ _ _ _)
      · obtain rfl : k = n := by omega
        have hgood : GoodCode zs := ⟨by rw [HL.out]; omega, by rw [HL.out]; omega, by rwa [List.take_of_length_le (by rw [HL.out]; omega)] at hs⟩
        have HB := Lib.hid hgood
        clear hgood hs
        go_wp2
        go_ret2
        exact dec_yes HB.out HL.out hown hb
  · have hbad : ¬ GoodCode zs := fun hg => hd ⟨by have := hg.1; rw [HL.out] at this; exact this, by have := hg.2.1; rw [HL.out] at this; exact this⟩
    have HB := Lib.hid hbad
    clear hbad
    by_cases h8 : n % 2 = 0
    · have h4 : (1200 : Int) < (n : Int) := by omega
      clear hd
      go_enter Tryd.func5, Tryd.ntmps5
      go_wp2
      go_ret2
      exact dec_no HB.out (Below.refl _ _) (World.ownsRow_nil _ _ _ _)
    · clear hd
      have h8' : ((n : Int) % 2 == 0) = false := by simp; omega
      go_enter Tryd.func5, Tryd.ntmps5
      go_wp2
      go_ret2
      exact dec_no HB.out (Below.refl _ _) (World.ownsRow_nil _ _ _ _)

theorem decTo_snoc (zs : List Int) (q : Nat) : decTo zs (q + 1) zs.length = decTo zs q zs.length ++ [nibs ((zs.drop (2 * q)).take 2)] := by
  simp [decTo, List.range_succ]
theorem two_at (zs : List Int) (q : Nat) (a b : Int) (ha : zs[2 * q]? = some a) (hb : zs[2 * q + 1]? = some b) : nibs ((zs.drop (2 * q)).take 2) = 16 * decN a + decN b := by
  have h : (zs.drop (2 * q)).take 2 = [a, b] := by
    apply List.ext_getElem?
    intro j
    match j with
    | 0 => simp [ha]
    | 1 => simp [hb]
    | j + 2 => simp; omega
  rw [h]; simp [nibs]

set_option maxHeartbeats 4000000 in
theorem specDecodeBytes_any {A : Option Addr} {n c : Nat} {zs : List Int} {w : World} (h : Has w A n (ints .u8 zs)) (hu : U8s zs) (hn : n ≤ 16777216) :
    Calls Tryd.prog 6 #[.slice A n c] w fun e w' => ∃ A' n' c', e = .returned (.tuple #[.slice A' n' c', .int .i64 (decM zs)]) ∧ Own w' w.heap.size 5 A' n' c' (ints .u8 (decB zs)) ∧ Below w.heap.size w w' := by
  obtain ⟨i0, hi, hz0, hz1, hz2⟩ := info_parts Tryd.infoU8
  have HL := Lib.hid h.len
  by_cases hd : n % 2 = 0 ∧ n ≤ 1200
  · obtain ⟨hd8, hd4⟩ := hd
    have hdec : decide ((1200 : Int) < (n : Int)) = false := by simp; omega
    go_enter Tryd.func6, Tryd.ntmps6
    go_wp2
    go_loopw [4, 5, 6] (fun v m i wr => ∃ q A' c', 2 * q ≤ n ∧ i = .int .i64 (2 * (q : Int)) ∧ m = .int .i64 (cntTo zs (2 * q)) ∧ v = .slice A' q c' ∧ Sevens (zs.take (2 * q)) ∧ Own wr w.heap.size 5 A' q c' (ints .u8 (decTo zs q zs.length)) ∧ Below w.heap.size w wr) (fun _ _ i _ => n - (intOf i).toNat)
    case atStart => exact ⟨0, _, _, Nat.zero_le _, rfl, rfl, rfl, by simp [Sevens], World.ownsRow_lit w #[] 0 (Nat.le_refl _) (by unfold maxLen; omega) rfl, (Below.refl _ _).alloc (Nat.le_refl _) _⟩
    case round =>
      obtain ⟨q, A', c', hk, rfl, rfl, rfl, hs, hown, hb⟩ := hrel
      obtain ⟨cb0, cb1⟩ := cntTo_b zs (2 * q)
      have hge := hb.size
      by_cases hlt : 2 * q < n
      · obtain ⟨b, o, x, rfl, hbl, hx, hc⟩ := h.at_ (i := 2 * q) (by omega)
        obtain ⟨b', o', y, hA2, _, hy, hc'⟩ := h.at_ (i := 2 * q + 1) (by omega)
        injection hA2 with hA2
        injection hA2 with e1 e2
        subst e1 e2
        have hc1 := (hb.cell (p := ⟨b, o + 2 * q, none⟩) hbl).trans hc
        have hc2 := (hb.cell (p := ⟨b, o + (2 * q + 1), none⟩) hbl).trans hc'
        obtain ⟨x0, x1⟩ := hu x (List.mem_of_getElem? hx)
        obtain ⟨y0, y1⟩ := hu y (List.mem_of_getElem? hy)
        have xb : -9223372036854775808 ≤ x ∧ x ≤ 9223372036854775807 := by omega
        have yb : -9223372036854775808 ≤ y ∧ y ≤ 9223372036854775807 := by omega
        by_cases hx7 : x ≤ 127
        · by_cases hy7 : y ≤ 127
          · have HS := Lib.hid (decTo_snoc zs q)
            have HT := Lib.hid (two_at zs q x y hx hy)
            have HB := Lib.hid ((hs.snoc hx hx7).snoc hy hy7)
            have HC := Lib.hid (cntTo_succ zs (2 * q) x hx)
            have HC' := Lib.hid (cntTo_succ zs (2 * q + 1) y hy)
            obtain ⟨p0, p1⟩ := decN_b x x0 hx7
            obtain ⟨r0, r1⟩ := decN_b y y0 hy7
            obtain ⟨s0, s1⟩ := decAt_b x x0 hx7
            obtain ⟨t0, t1⟩ := decAt_b y y0 hy7
            have HK := Lib.hid (show cnt1 x = if 0 < decAt x then 1 else 0 from rfl)
            have HK' := Lib.hid (show cnt1 y = if 0 < decAt y then 1 else 0 from rfl)
            clear hx hy hc hc'
            go_wp2_with (fail)
            refine (specDecodeNibble_any xb).mono ?_
            rintro e w' ⟨rfl, rfl⟩
            go_wp2_with (fail)
            refine (specDecodeNibble_any yb).mono ?_
            rintro e w' ⟨rfl, rfl⟩
            generalize decN x = p at *
            generalize decN y = r at *
            generalize decAt x = s at *
            generalize decAt y = t at *
            have sB : decide (s < 0) = false := by simp; omega
            have tB : decide (t < 0) = false := by simp; omega
            by_cases hs0 : 0 < s <;> by_cases ht0 : 0 < t
            all_goals
              go_wp2_with (at_builtin; refine wpList_apps _ rfl (.tmp 54) (.tmp 60) 22 rfl w.heap.size 5 i0 (.int .u8 0) 1 Tryd.underlying22 hi hz0 hz1 hz2 rfl A' q c' _ rfl hown 1 1 #[.int .u8 (16 * p + r)] rfl rfl (by simp [Value.oneCell']) (by decide) (by omega) (by decide) (by omega) ?_; intro g cap w2 hown2 hg2 hb2 _)
              go_roundw
              case rel =>
                refine ⟨q + 1, _, _, by omega, by go_num, ?_, rfl, HB.out, by rw [HS.out, HT.out, ints_app]; exact hown2, hb.trans hb2⟩
                rw [show 2 * (q + 1) = 2 * q + 1 + 1 by omega, HC'.out, HC.out, HK.out, HK'.out]
                first | rw [if_pos (by omega), if_pos (by omega)] | (rw [if_pos (by omega), if_neg (by omega)]; simp) | (rw [if_neg (by omega), if_pos (by omega)]; simp) | (rw [if_neg (by omega), if_neg (by omega)]; simp)
              case measure => simp [intOf]; omega
          · have hbad : ¬ GoodCode zs := fun hg => hy7 (hg.2.2 y (List.mem_of_getElem? hy))
            have HB := Lib.hid hbad
            have ha : decAt y = -1 := by unfold decAt; rw [if_neg (by omega)]
            obtain ⟨s0, s1⟩ := decAt_b x x0 hx7
            have sB : decide (decAt x < 0) = false := by simp; omega
            clear hbad hx hy hc hc'
            go_wp2_with (fail)
            refine (specDecodeNibble_any xb).mono ?_
            rintro e w' ⟨rfl, rfl⟩
            go_wp2_with (fail)
            refine (specDecodeNibble_any yb).mono ?_
            rintro e w' ⟨rfl, rfl⟩
            go_wp2
            go_ret2
            exact dec_no HB.out (hb.alloc hge _) (World.ownsRow_lit wr #[] 0 hge (by unfold maxLen; omega) rfl)
        · have hbad : ¬ GoodCode zs := fun hg => hx7 (hg.2.2 x (List.mem_of_getElem? hx))
          have HB := Lib.hid hbad
          have ha : decAt x = -1 := by unfold decAt; rw [if_neg (by omega)]
          clear hbad hx hy hc hc'
          go_wp2_with (fail)
          refine (specDecodeNibble_any xb).mono ?_
          rintro e w' ⟨rfl, rfl⟩
          go_wp2_with (fail)
          refine (specDecodeNibble_any yb).mono ?_
          rintro e w' ⟨rfl, rfl⟩
          go_wp2
          go_ret2
          exact dec_no HB.out (hb.alloc hge _) (World.ownsRow_lit wr #[] 0 hge (by unfold maxLen; omega) rfl)
      · obtain rfl : n = 2 * q := by omega
        have hgood : GoodCode zs := ⟨by rw [HL.out]; omega, by rw [HL.out]; omega, by rwa [List.take_of_length_le (by rw [HL.out]; omega)] at hs⟩
        have HB := Lib.hid hgood
        clear hgood hs
        go_wp2
        go_ret2
        exact dec_yes HB.out HL.out (by rw [HL.out] at hown; rwa [show 2 * q / 2 = q by omega]) hb
  · have hbad : ¬ GoodCode zs := fun hg => hd ⟨by have := hg.1; rw [HL.out] at this; exact this, by have := hg.2.1; rw [HL.out] at this; exact this⟩
    have HB := Lib.hid hbad
    clear hbad
    by_cases h8 : n % 2 = 0
    · have h4 : (1200 : Int) < (n : Int) := by omega
      clear hd
      go_enter Tryd.func6, Tryd.ntmps6
      go_wp2
      go_ret2
      exact dec_no HB.out ((Below.refl _ _).alloc (Nat.le_refl _) _) (World.ownsRow_lit w #[] 0 (Nat.le_refl _) (by unfold maxLen; omega) rfl)
    · clear hd
      have h8' : ((n : Int) % 2 == 0) = false := by simp; omega
      go_enter Tryd.func6, Tryd.ntmps6
      go_wp2
      go_ret2
      exact dec_no HB.out ((Below.refl _ _).alloc (Nat.le_refl _) _) (World.ownsRow_lit w #[] 0 (Nat.le_refl _) (by unfold maxLen; omega) rfl)
end Go.Proofs.YtpbiomlohgcjdaaDoor
