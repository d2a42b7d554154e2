/-
  Chapter 7's draws of arguments: what is proved here is which numbers and cables are drawn, and that nothing that was there is written. No condition.
-/
import Derived.Test.YtkmdpmhaljieaaaDrawCab
namespace Go.Proofs.Ytkmdpmhaljieaaa
open Go.RowKit

/-- What is drawn with a source, one cable more at most. -/
def CabL (q lo r p : Nat) (w w' : World) (e : Ending) : Prop := ∃ (m : Nat) (A' : Option Addr) (n' c' : Nat) (ks : List Tri) (p' : Nat), e = .returned (.tuple #[.int .i64 (m : Int), .slice A' n' c']) ∧ OwnK w' w.heap.size 29 A' n' c' ks ∧ TinyK ks ∧ n' ≤ 22 ∧ m ≤ 9 ∧ p' ≤ p + q ∧ Rd w' lo r p' ∧ w.grownBy w' (some r)
set_option maxRecDepth 100000 in
set_option maxHeartbeats 16000000 in
theorem l7Bent_any {lo r p : Nat} {w : World} (h : Rd w lo r p) (hp : p ≤ 274877906944) :
    Calls Try.prog 57 #[.pointer (some ⟨r, 0, none⟩)] w fun e w' => CabL 110 lo r p w w' e := by
  obtain ⟨i0, hi, hz0, hz1, hz2⟩ := info_partsK Try.infoCableD
  have hrl := h.lt
  go_enter Try.func57, Try.ntmps57
  go_wp2_with (fail)
  refine (l7Cables_any h hp).mono ?_
  rintro e w2 h2
  unfold CabR at h2
  obtain ⟨m, A2, n2, c2, ks, p2, rfl, O2, T2, hn2, hm2, hp2, R2, G2⟩ := h2
  have s2 := G2.size
  go_wp2_with (fail)
  refine (pick_any R2 (by omega) (by omega)).mono ?_
  rintro e w3 ⟨v, rfl, hv, R3, G3⟩
  have O3 := O2.past hrl G3
  have G13 := gr_trans G2 G3
  have s3 := G13.size
  have hr3 := R3.lt
  clear hv O2 R2 G2 G3
  by_cases v0 : v = 0
  · subst v0
    go_wp2_with (fail)
    refine (num_any (n := 2) (l := [0, 9]) (R3.alloc _) (by omega) (Has.row #[.int .i64 0, .int .i64 9] rfl rfl (by unfold maxLen; omega)) (fun ad ha => by injection ha with ha; subst ha; simp; omega) (by omega) (by omega)).mono ?_
    rintro e w4 ⟨u, rfl, hu, R4, G4⟩
    have hub : 0 ≤ u ∧ u ≤ 9 := by simp at hu; omega
    obtain ⟨q, rfl⟩ := Int.eq_ofNat_of_zero_le hub.1
    have G4' := gr_alloc G4
    have O4 := (O3.bel ((Below.refl _ _).alloc (Nat.le_refl _) _)).past hrl G4
    have G14 := gr_trans G13 G4'
    clear hu
    go_wp2
    go_ret2
    exact ⟨q, _, _, _, _, _, rfl, O4, T2, by omega, by omega, by omega, R4, G14⟩
  · have v0B : (v == 0) = false := by simp [v0]
    by_cases v1 : v = 1
    · subst v1
      go_wp2_with (at_builtin; refine wpList_append_lies (w3.alloc (.cells #[.int .i64 0, .int .i64 0, .int .i64 1] 29)) rfl (.tmp 20) (.tmp 22) 23 rfl w.heap.size 29 i0 (.agg #[.int .i64 0, .int .i64 0, .int .i64 0]) 3 24 Try.underlying23 hi hz0 hz1 hz2 rfl (by decide) (.slice A2 n2 c2) n2 (flatK ks) rfl (World.ownsRow.alloc O3 _) ⟨w3.heap.size, 0, none⟩ 1 1 (#[.int .i64 0, .int .i64 0, .int .i64 1] : Array Value).toList rfl rfl (World.news_of_block (heap_alloc_new w3 _)) (by simp [Value.oneCell']) (by decide) (by unfold maxLen; omega) (by omega) (by simp; omega) _ rfl ?_; intro g7 c7 w7 O7 G7 at7 _)
      have P7 := OwnK.more (x := ((0 : Int), (0 : Int), (1 : Int))) O7
      have T7 := T2.snoc (x := ((0 : Int), (0 : Int), (1 : Int))) (by simp only; omega)
      have hb7 : ∀ x, (Value.slice A2 n2 c2).ownBlock = some x → w.heap.size ≤ x := fun x hx => (World.ownsRow.lt O3 x hx).1
      have R7 := (R3.alloc (.cells #[.int .i64 0, .int .i64 0, .int .i64 1] 29)).grown G7 (fun x hx => by have := hb7 x hx; have := R3.1; exact ⟨by omega, by omega⟩)
      have G17 := gr_new (gr_bel G13 ((Below.refl _ _).alloc (Nat.le_refl _) _)) G7 hb7
      clear O7 G7 at7
      go_wp2
      go_ret2
      exact ⟨m, _, _, _, _, _, rfl, P7, T7, by omega, by omega, by omega, R7, G17⟩
    · have v1B : (v == 1) = false := by simp [v1]
      by_cases v2 : v = 2
      · subst v2
        go_wp2_with (at_builtin; refine wpList_append_lies (w3.alloc (.cells #[.int .i64 0, .int .i64 (m : Int), .int .i64 1] 29)) rfl (.tmp 26) (.tmp 29) 23 rfl w.heap.size 29 i0 (.agg #[.int .i64 0, .int .i64 0, .int .i64 0]) 3 24 Try.underlying23 hi hz0 hz1 hz2 rfl (by decide) (.slice A2 n2 c2) n2 (flatK ks) rfl (World.ownsRow.alloc O3 _) ⟨w3.heap.size, 0, none⟩ 1 1 (#[.int .i64 0, .int .i64 (m : Int), .int .i64 1] : Array Value).toList rfl rfl (World.news_of_block (heap_alloc_new w3 _)) (by simp [Value.oneCell']) (by decide) (by unfold maxLen; omega) (by omega) (by simp; omega) _ rfl ?_; intro g7 c7 w7 O7 G7 at7 _)
        have P7 := OwnK.more (x := ((0 : Int), (m : Int), (1 : Int))) O7
        have T7 := T2.snoc (x := ((0 : Int), (m : Int), (1 : Int))) (by simp only; omega)
        have hb7 : ∀ x, (Value.slice A2 n2 c2).ownBlock = some x → w.heap.size ≤ x := fun x hx => (World.ownsRow.lt O3 x hx).1
        have R7 := (R3.alloc (.cells #[.int .i64 0, .int .i64 (m : Int), .int .i64 1] 29)).grown G7 (fun x hx => by have := hb7 x hx; have := R3.1; exact ⟨by omega, by omega⟩)
        have G17 := gr_new (gr_bel G13 ((Below.refl _ _).alloc (Nat.le_refl _) _)) G7 hb7
        clear O7 G7 at7
        go_wp2
        go_ret2
        exact ⟨m, _, _, _, _, _, rfl, P7, T7, by omega, by omega, by omega, R7, G17⟩
      · have v2B : (v == 2) = false := by simp [v2]
        by_cases v3 : v = 3
        · subst v3
          go_wp2_with (fail)
          refine (num_any (n := 2) (l := [0, 100]) (R3.alloc _) (by omega) (Has.row #[.int .i64 0, .int .i64 100] rfl rfl (by unfold maxLen; omega)) (fun ad ha => by injection ha with ha; subst ha; simp; omega) (by omega) (by omega)).mono ?_
          rintro e w4 ⟨u, rfl, hu, R4, G4⟩
          have hub : 0 ≤ u ∧ u ≤ 100 := by simp at hu; omega
          have G4' := gr_alloc G4
          have O4 := (O3.bel ((Below.refl _ _).alloc (Nat.le_refl _) _)).past hrl G4
          have G14 := gr_trans G13 G4'
          have s4 := G14.size
          clear hu
          go_wp2_with (at_builtin; refine wpList_append_lies (w4.alloc (.cells #[.int .i64 0, .int .i64 1, .int .i64 u] 29)) rfl (.tmp 33) (.tmp 38) 23 rfl w.heap.size 29 i0 (.agg #[.int .i64 0, .int .i64 0, .int .i64 0]) 3 24 Try.underlying23 hi hz0 hz1 hz2 rfl (by decide) (.slice A2 n2 c2) n2 (flatK ks) rfl (World.ownsRow.alloc O4 _) ⟨w4.heap.size, 0, none⟩ 1 1 (#[.int .i64 0, .int .i64 1, .int .i64 u] : Array Value).toList rfl rfl (World.news_of_block (heap_alloc_new w4 _)) (by simp [Value.oneCell']) (by decide) (by unfold maxLen; omega) (by omega) (by simp; omega) _ rfl ?_; intro g7 c7 w7 O7 G7 at7 _)
          have P7 := OwnK.more (x := ((0 : Int), (1 : Int), u)) O7
          have T7 := T2.snoc (x := ((0 : Int), (1 : Int), u)) (by simp only; omega)
          have hb7 : ∀ x, (Value.slice A2 n2 c2).ownBlock = some x → w.heap.size ≤ x := fun x hx => (World.ownsRow.lt O4 x hx).1
          have R7 := (R4.alloc (.cells #[.int .i64 0, .int .i64 1, .int .i64 u] 29)).grown G7 (fun x hx => by have := hb7 x hx; have := R4.1; exact ⟨by omega, by omega⟩)
          have G17 := gr_new (gr_bel G14 ((Below.refl _ _).alloc (Nat.le_refl _) _)) G7 hb7
          clear O7 G7 at7
          go_wp2
          go_ret2
          exact ⟨m, _, _, _, _, _, rfl, P7, T7, by omega, by omega, by omega, R7, G17⟩
        · have v3B : (v == 3) = false := by simp [v3]
          go_wp2
          go_ret2
          exact ⟨m, _, _, _, _, _, rfl, O3, T2, by omega, by omega, by omega, R3, G13⟩
/-- What is drawn: a number of bridges, and cables. -/
def CabO (w w' : World) (e : Ending) : Prop := ∃ (m : Nat) (A' : Option Addr) (n' c' : Nat) (ks : List Tri), e = .returned (.tuple #[.int .i64 (m : Int), .slice A' n' c']) ∧ OwnK w' w.heap.size 29 A' n' c' ks ∧ TinyK ks ∧ n' ≤ 22 ∧ m ≤ 9 ∧ Below w.heap.size w w'
/-- What is drawn: a number of bridges, cables, and a number. -/
def CabX (w w' : World) (e : Ending) : Prop := ∃ (m : Nat) (x : Int) (A' : Option Addr) (n' c' : Nat) (ks : List Tri), e = .returned (.tuple #[.int .i64 (m : Int), .slice A' n' c', .int .i64 x]) ∧ OwnK w' w.heap.size 29 A' n' c' ks ∧ TinyK ks ∧ n' ≤ 22 ∧ m ≤ 9 ∧ (-1 ≤ x ∧ x ≤ 101) ∧ Below w.heap.size w w'
theorem results_tmp3K {fn : Func} {t u v : Tmp} (h : fn.results = #[.tmp t, .tmp u, .tmp v]) (tmps : Array Value) (P : Program) (w : World) :
    (results fn tmps).run P w = .ok (.tuple #[tmps.getD t undef, tmps.getD u undef, tmps.getD v undef]) w := by
  simp [results, h]
set_option maxHeartbeats 2000000 in
theorem drawCostsOf_any {A : Option Addr} {n c : Nat} {zs : List Int} {w : World} (h : Has w A n (ints .u8 zs)) (hu : U8s zs) (hc : n ≤ c ∧ c ≤ maxLen) :
    Calls Try.prog 24 #[.slice A n c] w fun e w' => CabO w w' e := by
  go_enter Try.func24, Try.ntmps24
  go_wp2_with (fail)
  refine (open_any h hu hc).mono ?_
  rintro e w1 ⟨r, rfl, R1, B1⟩
  have s1 := B1.size
  go_wp2_with (fail)
  refine (l7Bent_any R1 (by omega)).mono ?_
  rintro e w2 h2
  unfold CabL at h2
  obtain ⟨m, A2, n2, c2, ks, p2, rfl, O2, T2, hn2, hm2, hp2, R2, G2⟩ := h2
  have C2 := bel_read B1 R1 G2
  go_wp2
  go_ret2
  exact ⟨m, _, _, _, ks, rfl, O2.mono s1, T2, hn2, hm2, C2⟩
set_option maxHeartbeats 2000000 in
theorem drawTreeOf_any {A : Option Addr} {n c : Nat} {zs : List Int} {w : World} (h : Has w A n (ints .u8 zs)) (hu : U8s zs) (hc : n ≤ c ∧ c ≤ maxLen) :
    Calls Try.prog 28 #[.slice A n c] w fun e w' => CabO w w' e := by
  go_enter Try.func28, Try.ntmps28
  go_wp2_with (fail)
  refine (open_any h hu hc).mono ?_
  rintro e w1 ⟨r, rfl, R1, B1⟩
  have s1 := B1.size
  go_wp2_with (fail)
  refine (l7Bent_any R1 (by omega)).mono ?_
  rintro e w2 h2
  unfold CabL at h2
  obtain ⟨m, A2, n2, c2, ks, p2, rfl, O2, T2, hn2, hm2, hp2, R2, G2⟩ := h2
  have C2 := bel_read B1 R1 G2
  go_wp2
  go_ret2
  exact ⟨m, _, _, _, ks, rfl, O2.mono s1, T2, hn2, hm2, C2⟩
set_option maxHeartbeats 2000000 in
theorem drawRootOf_any {A : Option Addr} {n c : Nat} {zs : List Int} {w : World} (h : Has w A n (ints .u8 zs)) (hu : U8s zs) (hc : n ≤ c ∧ c ≤ maxLen) :
    Calls Try.prog 19 #[.slice A n c] w fun e w' => CabX w w' e := by
  go_enter Try.func19, Try.ntmps19
  go_wp2_with (fail)
  refine (open_any h hu hc).mono ?_
  rintro e w1 ⟨r, rfl, R1, B1⟩
  have s1 := B1.size
  have hr1 := R1.lt
  go_wp2_with (fail)
  refine (l7Bent_any R1 (by omega)).mono ?_
  rintro e w2 h2
  unfold CabL at h2
  obtain ⟨m, A2, n2, c2, ks, p2, rfl, O2, T2, hn2, hm2, hp2, R2, G2⟩ := h2
  go_wp2_with (fail)
  refine (pick_any R2 (by omega) (by omega)).mono ?_
  rintro e w3 ⟨v, rfl, hv, R3, G3⟩
  have hvb : 0 ≤ v ∧ v ≤ 11 := by unfold Picked at hv; omega
  have O3 := O2.past hr1 G3
  have C3 := bel_read B1 R1 (gr_trans G2 G3)
  clear hv
  go_wp2
  refine bodyPost_ret (results_tmp3K rfl _ _ _) rfl ?_
  exact ⟨m, v - 1, _, _, _, ks, rfl, O3.mono s1, T2, hn2, hm2, by omega, C3⟩
set_option maxHeartbeats 2000000 in
theorem drawWayUp_any {A : Option Addr} {n c : Nat} {zs : List Int} {w : World} (h : Has w A n (ints .u8 zs)) (hu : U8s zs) (hc : n ≤ c ∧ c ≤ maxLen) :
    Calls Try.prog 41 #[.slice A n c] w fun e w' => CabX w w' e := by
  go_enter Try.func41, Try.ntmps41
  go_wp2_with (fail)
  refine (drawRootOf_any h hu hc).mono ?_
  rintro e w1 h1
  unfold CabX at h1
  obtain ⟨m, x, A2, n2, c2, ks, rfl, O2, T2, hn2, hm2, hx, C2⟩ := h1
  go_wp2
  refine bodyPost_ret (results_tmp3K rfl _ _ _) rfl ?_
  exact ⟨m, x, _, _, _, ks, rfl, O2, T2, hn2, hm2, hx, C2⟩
set_option maxHeartbeats 2000000 in
theorem drawClaimsAfter_any {A : Option Addr} {n c : Nat} {zs : List Int} {w : World} (h : Has w A n (ints .u8 zs)) (hu : U8s zs) (hc : n ≤ c ∧ c ≤ maxLen) :
    Calls Try.prog 31 #[.slice A n c] w fun e w' => CabX w w' e := by
  go_enter Try.func31, Try.ntmps31
  go_wp2_with (fail)
  refine (open_any h hu hc).mono ?_
  rintro e w1 ⟨r, rfl, R1, B1⟩
  have s1 := B1.size
  have hr1 := R1.lt
  go_wp2_with (fail)
  refine (l7Bent_any R1 (by omega)).mono ?_
  rintro e w2 h2
  unfold CabL at h2
  obtain ⟨m, A2, n2, c2, ks, p2, rfl, O2, T2, hn2, hm2, hp2, R2, G2⟩ := h2
  have hr2 := R2.lt
  go_wp2_with (fail)
  refine (num_any (n := 8) (l := [3, 0, 1, 8, 20, 100, 101, -1]) (R2.alloc _) (by omega) (Has.row #[.int .i64 3, .int .i64 0, .int .i64 1, .int .i64 8, .int .i64 20, .int .i64 100, .int .i64 101, .int .i64 (-1)] rfl rfl (by unfold maxLen; omega)) (fun ad ha => by injection ha with ha; subst ha; simp; omega) (by omega) (by omega)).mono ?_
  rintro e w3 ⟨v, rfl, hv, R3, G3⟩
  have hvb : -1 ≤ v ∧ v ≤ 101 := by simp at hv; omega
  have O3 := (O2.bel ((Below.refl _ _).alloc (Nat.le_refl _) _)).past hr1 G3
  have C3 := bel_read B1 R1 (gr_trans G2 (gr_alloc G3))
  clear hv
  go_wp2
  refine bodyPost_ret (results_tmp3K rfl _ _ _) rfl ?_
  exact ⟨m, v, _, _, _, ks, rfl, O3.mono s1, T2, hn2, hm2, hvb, C3⟩
end Go.Proofs.Ytkmdpmhaljieaaa
