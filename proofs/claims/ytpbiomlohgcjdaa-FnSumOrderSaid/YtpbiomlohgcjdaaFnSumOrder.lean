/-
  FnSumOrder: for every slice of bytes the law returns true and writes nothing that was there. No condition.
-/
import Derived.Test.YtpbiomlohgcjdaaDrawSum
import Derived.IntWalk
import Derived.Deep.RegionLaw
import Derived.Deep.AppendLies
namespace Go.Proofs.Ytpbiomlohgcjdaa
open Go.RowKit Go.ChangeShapes Go.WideShapes Go.ChangeAt

/-- What the loop has gathered: the words from word q on, as many, in another order. -/
def Later (zs ws : List Int) (m q : Nat) : Prop := U8s ws ∧ ws.length = 2 * (m - q) ∧ wAll ws = wTo zs (2 * m) - wTo zs (2 * q)
theorem later_none (zs : List Int) (m : Nat) : Later zs [] m m := ⟨fun z hz => by (cases hz), by simp, by rw [wAll_nil]; omega⟩
theorem later_more {zs ws : List Int} {m q : Nat} {a b : Int} (h : Later zs ws m (q + 1)) (hq : q < m) (hu : U8s zs) (ha : zs[2 * q]? = some a) (hb : zs[2 * q + 1]? = some b) : Later zs (ws ++ [a, b]) m q := by
  obtain ⟨h1, h2, h3⟩ := h
  refine ⟨?_, by simp; omega, ?_⟩
  · rw [show ws ++ [a, b] = (ws ++ [a]) ++ [b] by simp]
    exact (h1.snoc (hu a (List.mem_of_getElem? ha)).1 (hu a (List.mem_of_getElem? ha)).2).snoc (hu b (List.mem_of_getElem? hb)).1 (hu b (List.mem_of_getElem? hb)).2
  · rw [wAll_two ws a b (by omega), h3, show 2 * (q + 1) = 2 * q + 1 + 1 by omega, wTo_odd zs _ b (by omega) hb, wTo_even zs _ a (by omega) ha]
    omega
theorem later_all {zs ws : List Int} {m : Nat} (h : Later zs ws m 0) (hm : m = zs.length / 2) (hu : U8s zs) : U8s (ws ++ zs.drop (2 * m)) ∧ (ws ++ zs.drop (2 * m)).length = zs.length ∧ wAll (ws ++ zs.drop (2 * m)) = wAll zs := by
  obtain ⟨h1, h2, h3⟩ := h
  refine ⟨?_, by simp; omega, ?_⟩
  · intro z hz
    rcases List.mem_append.1 hz with hz | hz
    · exact h1 z hz
    · exact hu z (List.mem_of_mem_drop hz)
  · by_cases he : zs.length % 2 = 0
    · rw [List.drop_of_length_le (by omega), List.append_nil, h3]
      unfold wAll
      rw [show 2 * m = zs.length by omega]
      simp only [wTo]; omega
    · have hl : 2 * m < zs.length := by omega
      have hx : zs[2 * m]? = some zs[2 * m] := List.getElem?_eq_getElem hl
      have hd : zs.drop (2 * m) = [zs[2 * m]] := by
        rw [List.drop_eq_getElem_cons hl, List.drop_of_length_le (by omega)]
      rw [hd, wAll_one ws _ (by omega), h3]
      unfold wAll
      rw [show zs.length = 2 * m + 1 by omega, wTo_even zs _ _ (by omega) hx]
      simp only [wTo]; omega
theorem sumOf_same {xs zs : List Int} (hl : xs.length = zs.length) (hw : wAll xs = wAll zs) : sumOf xs = sumOf zs := by unfold sumOf; rw [hl, hw]
theorem sumOf_pad {zs : List Int} (h : zs.length + 1 ≤ 600) (ho : zs.length % 2 = 1) : sumOf (zs ++ [0]) = sumOf zs := by
  rw [sumOf_yes (by simp; omega), sumOf_yes (by omega), wAll_pad zs ho]
theorem sumOf_with {zs : List Int} (hu : U8s zs) (h : zs.length + 2 ≤ 600) (he : zs.length % 2 = 0) (hn : sumOf zs ≠ 65535) : sumRight (zs ++ [sumOf zs / 256, sumOf zs % 256]) = true := by
  have hs := sumOf_yes (zs := zs) (by omega)
  have hb := rnd_b (wAll zs)
  have hw := wAll_b hu (n := 600) (by omega)
  have h1 : 0 < wAll zs := by
    rcases Int.lt_or_eq_of_le hw.1 with h | h
    · exact h
    · exfalso; apply hn; rw [hs, ← h]; rfl
  unfold sumRight
  rw [sumOf_yes (by simp; omega), wAll_two zs _ _ he, hs]
  rw [show wAll zs + 256 * ((65535 - rnd (wAll zs)) / 256) + (65535 - rnd (wAll zs)) % 256 = wAll zs + (65535 - rnd (wAll zs)) by omega, rnd_full _ h1]
  rfl
theorem u8_wrap {s : Int} (h0 : 0 ≤ s) (h1 : s ≤ 255) : IntKind.u8.wrap s = s := by
  obtain ⟨a, rfl⟩ := Int.eq_ofNat_of_zero_le h0
  simp [IntKind.wrap, IntKind.bits, IntKind.signed]; omega
theorem u8_part (s : Int) : IntKind.u8.wrap (s % 256) = s % 256 := u8_wrap (by omega) (by omega)

set_option maxHeartbeats 8000000 in
set_option maxRecDepth 100000 in
theorem walk_FnSumOrder {A0 : Option Addr} {n0 c0 : Nat} {zs0 : List Int} {w : World} (h0 : Has w A0 n0 (ints .u8 zs0)) (hwf0 : ∀ z ∈ zs0, (Lit.int .u8 z).wf = true) (hc0 : n0 ≤ c0 ∧ c0 ≤ maxLen) :
    Calls Try.prog 3 #[.slice A0 n0 c0] w fun e w' => e = .returned (.bool true) ∧ Below w.heap.size w w' := by
  have hu0 : U8s zs0 := fun z hz => u8_of_wf (hwf0 z hz)
  obtain ⟨i0, hi, hz0, hz1, hz2⟩ := info_parts Try.infoU8
  clear hwf0
  by_cases hn0 : n0 ≤ 1048576
  · go_enter Try.func3, Try.ntmps3
    go_wp2_with (fail)
    refine (drawSumOf_any h0 hu0 hc0).mono ?_
    rintro e w1 ⟨A1, n, c, zs, rfl, O1, hu, hn, B1⟩
    have s1 := B1.size
    go_wp2_with (fail)
    refine (implSumOf_any O1.has hu (by omega)).mono ?_
    rintro e w2 ⟨rfl, B2⟩
    have O2 := O1.bel B2
    have C2 := bel_trans B1 B2
    have s2 := B2.size
    go_wp2_with (fail)
    refine (specSumOf_any O2.has hu (by omega)).mono ?_
    rintro e w3 ⟨rfl, B3⟩
    have O3 := O2.bel B3
    have C3 := bel_trans C2 B3
    have s3 := B3.size
    clear O1 O2 B1 B2 B3
    have HL := Lib.hid O3.has.len
    by_cases h6 : n ≤ 600
    · have hsb := sumOf_b zs
      have hs1 : 0 ≤ sumOf zs := by
        rw [sumOf_yes (by rw [HL.out]; omega)]
        have := rnd_b (wAll zs)
        omega
      obtain ⟨hsl, hsu⟩ := hsb
      have HS := Lib.hid (show sumOf zs = sumOf zs from rfl)
      generalize hgs : sumOf zs = s at HS hs1 hsl hsu ⊢
      have HG := Lib.hid hgs
      clear hgs
      have sB : decide (s < 0) = false := by simp; omega
      have HN : ∃ m, m = n / 2 ∧ ((n : Int) - (n : Int) % 2 - 2 = 2 * (m : Int) - 2) := ⟨n / 2, rfl, by omega⟩
      obtain ⟨m, hm, hmi⟩ := HN
      have HM := Lib.hid hm
      have hmb : m ≤ 300 := by omega
      clear hm
      go_wp2
      go_loopw [5, 6] (fun v i wr => ∃ q A' l c' ws, q ≤ m ∧ i = .int .i64 (2 * (q : Int) - 2) ∧ l = 2 * (m - q) ∧ v = .slice A' l c' ∧ Own wr w3.heap.size 5 A' l c' (ints .u8 ws) ∧ Hid (Later zs ws m q) ∧ Below w3.heap.size w3 wr) (fun _ i _ => (intOf i + 2).toNat)
      case atStart => exact ⟨m, _, 0, _, [], Nat.le_refl _, rfl, by omega, rfl, World.ownsRow_lit w3 #[] 0 (Nat.le_refl _) (by unfold maxLen; omega) rfl, later_none zs m, (Below.refl _ _).alloc (Nat.le_refl _) _⟩
      case round =>
        obtain ⟨q, A4, l, c4, ws, hq, rfl, hl, rfl, O4, L4, B4⟩ := hrel
        have s4 := B4.size
        have hlb : l ≤ 600 := by omega
        have HLL := Lib.hid hl
        clear hl
        by_cases hq0 : 0 < q
        · obtain ⟨p, rfl⟩ : ∃ p, q = p + 1 := ⟨q - 1, by omega⟩
          have hk : 2 * ((p + 1 : Nat) : Int) - 2 = 2 * (p : Int) := by omega
          rw [hk]
          have hpn : 2 * p + 1 < n := by have := HM.out; omega
          obtain ⟨b, o, x, rfl, hbl, hx, hc⟩ := (O3.bel B4).has.at_ (i := 2 * p) (by omega)
          obtain ⟨b', o', y, hA2, _, hy, hc'⟩ := (O3.bel B4).has.at_ (i := 2 * p + 1) (by omega)
          injection hA2 with hA2
          injection hA2 with e1 e2
          subst e1 e2
          have HW := Lib.hid (later_more L4.out (by omega) hu hx hy)
          obtain ⟨x0, x1⟩ := hu x (List.mem_of_getElem? hx)
          obtain ⟨y0, y1⟩ := hu y (List.mem_of_getElem? hy)
          clear hx hy hk
          have p0 : (0 : Int) ≤ 2 * (p : Int) := by omega
          have p1 : 2 * (p : Int) + 1 < (n : Int) := by omega
          have p2 : (0 : Int) ≤ 2 * (p : Int) + 1 := by omega
          have p3 : 2 * (p : Int) < (n : Int) := by omega
          have t0 : (2 * (p : Int)).toNat = 2 * p := by omega
          have t2 : IntKind.i64.wrap (2 * (p : Int) + 1) = 2 * (p : Int) + 1 := IntWalk.i64_in _ (by omega)
          have t1 : (2 * (p : Int) + 1).toNat = 2 * p + 1 := by omega
          have O5 : ((wr.alloc (.cells #[Value.int .u8 x, Value.int .u8 y] 5)).drew).ownsRow w3.heap.size 5 1 (.slice A4 l c4) l (ints .u8 ws) := World.ownsRow.drew (World.ownsRow.alloc O4 _)
          have N5 := Lib.hid (World.news_of_block (w := (wr.alloc (.cells #[Value.int .u8 x, Value.int .u8 y] 5)).drew) (B := wr.heap.size) (cs := #[Value.int .u8 x, Value.int .u8 y]) (t := 5) (fr := (0, 0)) (heap_alloc_new wr _))
          have Z5 : w3.heap.size ≤ ((wr.alloc (.cells #[Value.int .u8 x, Value.int .u8 y] 5)).drew).heap.size := by simp; omega
          go_wp2
          go_region_law ((with_reducible refine step_append_lies _ rfl (.tmp 43) (.tmp 53) 22 rfl w3.heap.size 5 i0 (.int .u8 0) 1 1 Try.underlying22 hi hz0 hz1 hz2 ?c1 ?c2 (.slice A4 l c4) l (ints .u8 ws) rfl O5 ⟨wr.heap.size, 0, none⟩ 2 2 (#[Value.int .u8 x, Value.int .u8 y] : Array Value).toList rfl ?c3 N5.out ?c4 ?c5 ?c6 ?c7 Z5 _ rfl ?_); (case c1 => rfl); (case c2 => decide); (case c3 => rfl); (case c4 => simp [Value.oneCell']); (case c5 => decide); (case c6 => unfold maxLen; omega); (case c7 => omega); intro g cap w6 O6 G6 _ _)
          all_goals
            go_wp2
            go_roundw
            case rel => exact ⟨p, _, _, _, ws ++ [x, y], by omega, by go_num, by have := HLL.out; omega, rfl, by rw [ints_app]; exact O6, HW.out, ((B4.alloc s4 _).drew).trans (below_of_grown G6 Z5 (fun g hg => (World.ownsRow.lt O5 g hg).1))⟩
            case measure => simp [intOf]; omega
        · obtain rfl : q = 0 := by omega
          obtain ⟨B, cB, HT, HB⟩ := run_tail (P := Try.prog) (t := 22) (e := 5) (c := c) (l := 2 * m) (z := (n : Int) - (n : Int) % 2) Try.underlying22 (fun _ => by kernel_rfl) (O3.bel B4).has O3.cap (by have := HM.out; omega) (by have := HM.out; omega)
          have HLn := Lib.hid (show l + (n - 2 * m) = n by have := HM.out; have := HLL.out; omega)
          have hlt : l + (n - 2 * m) ≤ 600 := by have := HLn.out; omega
          have HA := Lib.hid (later_all L4.out (by rw [HM.out, HL.out]) hu)
          rw [show (ints .u8 zs).drop (2 * m) = ints .u8 (zs.drop (2 * m)) by simp [ints]] at HB
          go_wp2_with (at_builtin; refine wpList_app_has _ rfl (.tmp 55) (.tmp 63) 22 rfl w3.heap.size 5 i0 (.int .u8 0) 1 Try.underlying22 hi hz0 hz1 hz2 rfl A4 l c4 _ rfl O4 B (n - 2 * m) cB _ rfl HB (ints_oneCell _ _) (by omega) (by decide) (by omega) ?_; intro A5 c5 w5 O5 G5 B5)
          rw [← ints_app] at O5
          have B5' := B4.trans B5
          have hs5 : sumOf (ws ++ zs.drop (2 * m)) = s := (sumOf_same HA.out.2.1 HA.out.2.2).trans HG.out
          have C5 := implSumOf_any (c := c5) O5.has HA.out.1 (by omega)
          rw [hs5] at C5
          refine C5.mono ?_
          rintro e w6 ⟨rfl, B6⟩
          have B6' := bel_trans B5' B6
          have C6 := bel_trans C3 B6'
          have O6 := O3.bel B6'
          have s6 := B6'.size
          clear C5 hs5 B5' B6 B5 G5 O5 HB HT O4 B4 L4 HA hlt
          have HC : Hid (n ≤ c) := O3.cap
          by_cases ho : n % 2 = 1
          · have hoB : ((n : Int) % 2 == 1) = true := by simp; omega
            have h1B : decide ((n : Int) + 1 ≤ 600) = true := by simp; omega
            have hsp : sumOf (zs ++ [0]) = s := (sumOf_pad (by rw [HL.out]; omega) (by rw [HL.out]; omega)).trans HG.out
            have HP := Lib.hid hsp
            have hup : U8s (zs ++ [0]) := hu.snoc (by omega) (by omega)
            clear hsp
            go_wp2_with (first | (at_builtin; refine wpList_unguard rfl ?_; refine wpList_app_has _ rfl (.tmp 81) (.tmp 82) 22 rfl w6.heap.size 5 i0 (.int .u8 0) 1 Try.underlying22 hi hz0 hz1 hz2 rfl (some ⟨w6.heap.size, 0, none⟩) 0 0 [] rfl (World.ownsRow_lit w6 #[] 0 (Nat.le_refl _) (by unfold maxLen; omega) rfl) A1 n c (ints .u8 zs) rfl (O6.has.bel ((Below.refl _ _).alloc (Nat.le_refl _) _)) (ints_oneCell _ _) (by omega) (by decide) (by simp) ?_; intro A7 c7 w7 O7 G7 B7; rw [Nat.zero_add, List.nil_append] at O7) | (at_builtin; refine wpList_unguard rfl ?_; refine wpList_apps _ rfl (.tmp 83) (.tmp 84) 22 rfl w6.heap.size 5 i0 (.int .u8 0) 1 Try.underlying22 hi hz0 hz1 hz2 rfl A7 n c7 _ rfl O7 1 1 #[.int .u8 0] rfl rfl (by simp [Value.oneCell']) (by decide) (by omega) (by decide) (Nat.le_trans (by simp) (World.grownBy.size G7)) ?_; intro g8 c8 w8 O8 G8 B8 _))
            have B7' : Below w6.heap.size w6 w7 := ((Below.refl w6.heap.size w6).alloc (Nat.le_refl _) _).trans B7
            have s7 := B7'.size
            rw [show ints .u8 zs ++ (#[Value.int .u8 0] : Array Value).toList = ints .u8 (zs ++ [0]) by rw [ints_app]; rfl] at O8
            have CC := implSumOf_any (c := c8) O8.has hup (by omega)
            rw [HP.out] at CC
            refine CC.mono ?_
            rintro e w9 ⟨rfl, B9⟩
            have B8' := (B7'.trans B8)
            have C9 := bel_trans C6 (bel_trans B8' B9)
            have O9 := (O6.bel B8').bel B9
            have u6 : IntKind.u8.wrap (s / 256) = s / 256 := u8_wrap (by omega) (by omega)
            have u7 : IntKind.u8.wrap (s % 256) = s % 256 := u8_part s
            go_wp2_with (first | (at_builtin; refine wpList_app_has _ rfl (.tmp 91) (.tmp 92) 22 rfl w9.heap.size 5 i0 (.int .u8 0) 1 Try.underlying22 hi hz0 hz1 hz2 rfl (some ⟨w9.heap.size, 0, none⟩) 0 0 [] rfl (World.ownsRow_lit w9 #[] 0 (Nat.le_refl _) (by unfold maxLen; omega) rfl) A1 n c (ints .u8 zs) rfl (O9.has.bel ((Below.refl _ _).alloc (Nat.le_refl _) _)) (ints_oneCell _ _) (by omega) (by decide) (by simp) ?_; intro A10 c10 w10 O10 G10 B10; rw [Nat.zero_add, List.nil_append] at O10) | (at_builtin; refine wpList_apps _ rfl (.tmp 93) (.tmp 100) 22 rfl w9.heap.size 5 i0 (.int .u8 0) 1 Try.underlying22 hi hz0 hz1 hz2 rfl A10 n c10 _ rfl O10 2 2 #[.int .u8 (s / 256), .int .u8 (s % 256)] rfl rfl (by simp [Value.oneCell']) (by decide) (by omega) (by decide) (Nat.le_trans (by simp) (World.grownBy.size G10)) ?_; intro g12 c12 w12 O12 G12 B12 hat12))
            go_ret
            exact ⟨rfl, bel_trans C9 (((Below.refl w9.heap.size w9).alloc (Nat.le_refl _) _).trans (B10.trans B12))⟩
          · have hoB : ((n : Int) % 2 == 1) = false := by simp; omega
            have u6 : IntKind.u8.wrap (s / 256) = s / 256 := u8_wrap (by omega) (by omega)
            have u7 : IntKind.u8.wrap (s % 256) = s % 256 := u8_part s
            have hux : U8s (zs ++ [s / 256, s % 256]) := by
              rw [show zs ++ [s / 256, s % 256] = (zs ++ [s / 256]) ++ [s % 256] by simp]
              exact (hu.snoc (by omega) (by omega)).snoc (by omega) (by omega)
            have hw : n ≠ 600 → s ≠ 65535 → sumRight (zs ++ [s / 256, s % 256]) = true := fun h9 h8 => by
              have := sumOf_with hu (by rw [HL.out]; omega) (by rw [HL.out]; omega) (by rw [HG.out]; exact h8)
              rwa [HG.out] at this
            have HW := Lib.hid hw
            clear hw
            by_cases h600 : n = 600
            · subst h600
              go_wp2_with (first | (at_builtin; refine wpList_app_has _ rfl (.tmp 91) (.tmp 92) 22 rfl w6.heap.size 5 i0 (.int .u8 0) 1 Try.underlying22 hi hz0 hz1 hz2 rfl (some ⟨w6.heap.size, 0, none⟩) 0 0 [] rfl (World.ownsRow_lit w6 #[] 0 (Nat.le_refl _) (by unfold maxLen; omega) rfl) A1 600 c (ints .u8 zs) rfl (O6.has.bel ((Below.refl _ _).alloc (Nat.le_refl _) _)) (ints_oneCell _ _) (by omega) (by decide) (by simp) ?_; intro A10 c10 w10 O10 G10 B10; rw [Nat.zero_add, List.nil_append] at O10) | (at_builtin; refine wpList_apps _ rfl (.tmp 93) (.tmp 100) 22 rfl w6.heap.size 5 i0 (.int .u8 0) 1 Try.underlying22 hi hz0 hz1 hz2 rfl A10 600 c10 _ rfl O10 2 2 #[.int .u8 (s / 256), .int .u8 (s % 256)] rfl rfl (by simp [Value.oneCell']) (by decide) (by omega) (by decide) (Nat.le_trans (by simp) (World.grownBy.size G10)) ?_; intro g12 c12 w12 O12 G12 B12 hat12))
              go_ret
              exact ⟨rfl, bel_trans C6 (((Below.refl w6.heap.size w6).alloc (Nat.le_refl _) _).trans (B10.trans B12))⟩
            · have h1B : decide ((n : Int) + 1 ≤ 600) = true := by simp; omega
              have h2B : decide ((600 : Int) < (n : Int) + 2) = false := by simp; omega
              by_cases hs6 : s = 65535
              · have h3B : (s == 65535) = true := by simp [hs6]
                clear hs6
                go_wp2_with (first | (at_builtin; refine wpList_app_has _ rfl (.tmp 91) (.tmp 92) 22 rfl w6.heap.size 5 i0 (.int .u8 0) 1 Try.underlying22 hi hz0 hz1 hz2 rfl (some ⟨w6.heap.size, 0, none⟩) 0 0 [] rfl (World.ownsRow_lit w6 #[] 0 (Nat.le_refl _) (by unfold maxLen; omega) rfl) A1 n c (ints .u8 zs) rfl (O6.has.bel ((Below.refl _ _).alloc (Nat.le_refl _) _)) (ints_oneCell _ _) (by omega) (by decide) (by simp) ?_; intro A10 c10 w10 O10 G10 B10; rw [Nat.zero_add, List.nil_append] at O10) | (at_builtin; refine wpList_apps _ rfl (.tmp 93) (.tmp 100) 22 rfl w6.heap.size 5 i0 (.int .u8 0) 1 Try.underlying22 hi hz0 hz1 hz2 rfl A10 n c10 _ rfl O10 2 2 #[.int .u8 (s / 256), .int .u8 (s % 256)] rfl rfl (by simp [Value.oneCell']) (by decide) (by omega) (by decide) (Nat.le_trans (by simp) (World.grownBy.size G10)) ?_; intro g12 c12 w12 O12 G12 B12 hat12))
                go_ret
                exact ⟨rfl, bel_trans C6 (((Below.refl w6.heap.size w6).alloc (Nat.le_refl _) _).trans (B10.trans B12))⟩
              · have h3B : (s == 65535) = false := by simp [hs6]
                go_wp2_with (first | (at_builtin; refine wpList_app_has _ rfl (.tmp 91) (.tmp 92) 22 rfl w6.heap.size 5 i0 (.int .u8 0) 1 Try.underlying22 hi hz0 hz1 hz2 rfl (some ⟨w6.heap.size, 0, none⟩) 0 0 [] rfl (World.ownsRow_lit w6 #[] 0 (Nat.le_refl _) (by unfold maxLen; omega) rfl) A1 n c (ints .u8 zs) rfl (O6.has.bel ((Below.refl _ _).alloc (Nat.le_refl _) _)) (ints_oneCell _ _) (by omega) (by decide) (by simp) ?_; intro A10 c10 w10 O10 G10 B10; rw [Nat.zero_add, List.nil_append] at O10) | (at_builtin; refine wpList_apps _ rfl (.tmp 93) (.tmp 100) 22 rfl w6.heap.size 5 i0 (.int .u8 0) 1 Try.underlying22 hi hz0 hz1 hz2 rfl A10 n c10 _ rfl O10 2 2 #[.int .u8 (s / 256), .int .u8 (s % 256)] rfl rfl (by simp [Value.oneCell']) (by decide) (by omega) (by decide) (Nat.le_trans (by simp) (World.grownBy.size G10)) ?_; intro g12 c12 w12 O12 G12 B12 hat12))
                rw [show ints .u8 zs ++ (#[Value.int .u8 (s / 256), Value.int .u8 (s % 256)] : Array Value).toList = ints .u8 (zs ++ [s / 256, s % 256]) by rw [ints_app]; rfl] at O12
                have CC := implSumRight_any (c := c12) O12.has hux (by omega)
                rw [HW.out h600 hs6] at CC
                refine CC.mono ?_
                rintro e w13 ⟨rfl, B13⟩
                go_wp2
                go_ret
                exact ⟨rfl, bel_trans (bel_trans C6 (((Below.refl w6.heap.size w6).alloc (Nat.le_refl _) _).trans (B10.trans B12))) B13⟩
    · have hs := sumOf_no (zs := zs) (by rw [HL.out]; exact h6)
      have CC := specSumOf_any (c := c) O3.has hu (by omega)
      rw [hs] at CC ⊢
      go_wp2_with (fail)
      refine CC.mono ?_
      rintro e w4 ⟨rfl, B4⟩
      go_wp2
      go_ret
      exact ⟨rfl, bel_trans C3 B4⟩
  · go_enter Try.func3, Try.ntmps3
    go_wp2
    go_ret
    exact ⟨rfl, Below.refl _ _⟩
set_option maxRecDepth 100000 in
theorem lifted_FnSumOrder (os : Os) (started : os.Started) (H : Type) (enc : TypeId × Value → H) :
    ReturnsInHanded {} Try.checked os 3 .any (Rows.fnSumOrderSpec.pre6 enc Try.prog Try.f3 Rows.fnSumOrderRow.domain false) (Rows.fnSumOrderSpec.post enc Try.prog Try.f3 false true false false) := by
  refine returnsInHanded_of_change (C := Try.checked) (by kernel_rfl) started (by kernel_rfl) Try.func3
    (ChangeSpec.witness6 (enc := enc) (C := Try.checked) false ⟨#[], #[.slice none 0 0], []⟩ 8 (by kernel_rfl) (by kernel_rfl) (by kernel_rfl) (by kernel_rfl)) ?_
  intro W base args ds gs before hval0 hW hcnd _
  have hval : ∀ (j : Nat) t v, Try.f3.params[j]? = some t → args[j]? = some v → Value.okWide Try.prog W .any base t v := hval0
  have hW' := hW
  obtain ⟨p, q, hA0, hV, rfl, hfz, hnd⟩ := hW
  have hA : DataW.TrodAll enc Try.prog W 0 (fun _ => true) true Try.f3.params.toList args.toList ds p := hA0
  rw [Try.params3] at hA hval
  obtain ⟨v0, vs0, d0, ds0, p0, q0, hargs, rfl, rfl, h0, r0⟩ := trodAll_cons hA
  obtain ⟨rfl, rfl, rfl⟩ := trodAll_nil r0
  obtain rfl : args = #[v0] := by cases args; simp_all
  obtain ⟨rfl, rfl⟩ := trodVars_none hV
  obtain ⟨a0, len0, cap0, rfl⟩ := okWide_slice Try.underlying22 (hval 0 22 v0 rfl rfl)
  have k0 := h0
  have lt0 : ∀ x ∈ p0, x.block < W.heap.size := by obtain ⟨m, hm⟩ := k0; exact DataW.trod_lt m _ _ _ hm
  obtain ⟨z0, H0, U0, M0⟩ := has_of_trod (k := .u8) Try.underlying22 Try.underlying5 (by kernel_rfl) h0
  clear hA0 hval0
  refine (walk_FnSumOrder H0 U0 M0).mono fun e W' ⟨he, bel⟩ => ?_
  subst he
  exact ⟨_, rfl, _, _, _, [], _, [], hW', trodAll_mk1 (shut_bool Try.underlying4 _), (trodAll_cons_mk (Below.trod (by kernel_rfl) (by kernel_rfl) (of_decide_eq_true (by kernel_rfl)) k0 bel lt0) trodAll_mk0), rfl, bel.frame _, fun h => by cases h⟩

theorem fnSumOrder_holds : Rows.FnSumOrderSaid :=
  OpenClaim.holds_of_wide 3 Try.f3 rfl rfl rfl rfl rfl rfl rfl ⟨rfl, rfl, rfl, rfl, rfl⟩ rfl rfl rfl rfl rfl (by kernel_rfl) Try.func3 (by kernel_rfl)
    (of_decide_eq_true (by kernel_rfl)) (by unfold Func.isWrapper; first | (rw [if_pos (by decide +kernel)]; kernel_rfl) | (rw [if_neg (by decide +kernel)]; exact ⟨rfl, rfl⟩))
    (fun os started H enc _ => lifted_FnSumOrder os started H enc)
end Go.Proofs.Ytpbiomlohgcjdaa
