/-
  Chapter 16's mathematics: nodes and wires of a fabric, ways and the two routes, which wires wait for which, rounds and how a search finds them, worms and their steps, and what the laws say of them. Plain mathematics about numbers and lists, no condition.
-/
import Derived.Test.YthcfjnedpffbbaaDoorBase
namespace Go.Proofs.YthcfjnedpffbbaaDoor

/- Fabrics and nodes. -/
def okWH (w h : Int) : Prop := (1 ≤ w ∧ w ≤ 5) ∧ 1 ≤ h ∧ h ≤ 5
instance (w h : Int) : Decidable (okWH w h) := by unfold okWH; infer_instance
def okN (w h a : Int) : Prop := okWH w h ∧ 0 ≤ a ∧ a < w * h
instance (w h a : Int) : Decidable (okN w h a) := by unfold okN; infer_instance
/- The number of the wire between two nodes of a fabric so wide, or -1. -/
def wireW (w a b : Nat) : Int :=
  if a / w = b / w ∧ b % w = a % w + 1 then ((4 * a : Nat) : Int)
  else if a / w = b / w ∧ a % w = b % w + 1 then ((4 * a + 1 : Nat) : Int)
  else if a % w = b % w ∧ b / w = a / w + 1 then ((4 * a + 2 : Nat) : Int)
  else if a % w = b % w ∧ a / w = b / w + 1 then ((4 * a + 3 : Nat) : Int)
  else -1
def wireI (w h a b : Int) : Int := if okN w h a ∧ okN w h b then wireW w.toNat a.toNat b.toNat else -1
theorem wireW_self (w a : Nat) : wireW w a a = -1 := by
  unfold wireW
  repeat (rw [if_neg (by omega)])
theorem wireW_ge (w a b : Nat) : -1 ≤ wireW w a b ∧ wireW w a b ≤ 4 * a + 3 := by unfold wireW; repeat' split; all_goals omega
theorem wireW_four {w a b : Nat} (h : 0 ≤ wireW w a b) : 4 * (a : Int) ≤ wireW w a b ∧ wireW w a b ≤ 4 * a + 3 := by
  unfold wireW at *
  repeat' split at h
  all_goals simp_all
  all_goals omega
theorem wireW_back {w a b : Nat} (h : 0 ≤ wireW w a b) : 0 ≤ wireW w b a := by
  unfold wireW at *
  generalize a / w = ay at *
  generalize b / w = yb at *
  generalize a % w = ax at *
  generalize b % w = xb at *
  repeat' split
  all_goals (try omega)
  all_goals (exfalso; repeat' split at h)
  all_goals (try omega)
theorem wireW_ne {w a b c : Nat} (h1 : 0 ≤ wireW w a b) (h2 : 0 ≤ wireW w b c) : wireW w a b ≠ wireW w b c := by
  intro h
  have e1 := wireW_four h1
  have e2 := wireW_four h2
  have e3 : a = b := by omega
  subst e3
  rw [wireW_self] at h1
  omega
theorem node_eq {w a b : Nat} (h1 : a / w = b / w) (h2 : a % w = b % w) : a = b := by
  rw [← Nat.div_add_mod a w, ← Nat.div_add_mod b w, h1, h2]
theorem wireW_inj {w a b c : Nat} (h : 0 ≤ wireW w a b) (he : wireW w a c = wireW w a b) : c = b := by
  have key : c / w = b / w ∧ c % w = b % w := by
    unfold wireW at *
    generalize a / w = ay at *
    generalize b / w = yb at *
    generalize c / w = yc at *
    generalize a % w = ax at *
    generalize b % w = xb at *
    generalize c % w = xc at *
    repeat' split at h
    all_goals (repeat' split at he)
    all_goals (try omega)
  exact node_eq key.1 key.2
theorem okN_lt {w h a : Int} (k : okN w h a) : a.toNat < 25 ∧ ((a.toNat : Nat) : Int) = a := by
  obtain ⟨⟨⟨h1, h2⟩, h3, h4⟩, h5, h6⟩ := k
  have hm : w * h ≤ 5 * 5 := Int.mul_le_mul h2 h4 (by omega) (by omega)
  omega
theorem wireI_ge (w h a b : Int) : -1 ≤ wireI w h a b ∧ wireI w h a b ≤ 99 := by
  unfold wireI
  split
  · rename_i k
    have h1 := okN_lt k.1
    have h2 := wireW_ge w.toNat a.toNat b.toNat
    omega
  · omega

/- Ways. -/
def nd (ks : List Int) (i : Nat) : Nat := (ks.getD i 0).toNat
def StepOk (w h : Int) (ks : List Int) (i : Nat) : Prop := okN w h (ks.getD i 0) ∧ (0 < i → 0 ≤ wireW w.toNat (nd ks (i - 1)) (nd ks i))
instance (w h : Int) (ks : List Int) (i : Nat) : Decidable (StepOk w h ks i) := by unfold StepOk; infer_instance
def WayOk (w h : Int) (ks : List Int) : Prop := (1 ≤ ks.length ∧ ks.length ≤ 30) ∧ ∀ i, i < ks.length → StepOk w h ks i
instance (w h : Int) (ks : List Int) : Decidable (WayOk w h ks) := by unfold WayOk; infer_instance
theorem nd_drop (ks : List Int) (d i : Nat) : (ks.drop d).getD i 0 = ks.getD (d + i) 0 := by
  rw [List.getD_eq_getElem?_getD, List.getD_eq_getElem?_getD, List.getElem?_drop]
theorem nd_take (ks : List Int) {n i : Nat} (h : i < n) : (ks.take n).getD i 0 = ks.getD i 0 := by
  rw [List.getD_eq_getElem?_getD, List.getD_eq_getElem?_getD, List.getElem?_take, if_pos h]
theorem way_drop {w h : Int} {ks : List Int} (k : WayOk w h ks) {d : Nat} (hd : d < ks.length) : WayOk w h (ks.drop d) := by
  obtain ⟨⟨h1, h2⟩, h3⟩ := k
  refine ⟨by rw [List.length_drop]; omega, fun i hi => ?_⟩
  rw [List.length_drop] at hi
  have h4 := h3 (d + i) (by omega)
  unfold StepOk nd at *
  rw [nd_drop, nd_drop]
  refine ⟨h4.1, fun hp => ?_⟩
  have h5 := h4.2 (by omega)
  rw [show d + i - 1 = d + (i - 1) by omega] at h5
  exact h5
theorem way_take {w h : Int} {ks : List Int} (k : WayOk w h ks) {d : Nat} (hd : d < ks.length) : WayOk w h (ks.take (d + 1)) := by
  obtain ⟨⟨h1, h2⟩, h3⟩ := k
  refine ⟨by rw [List.length_take]; omega, fun i hi => ?_⟩
  rw [List.length_take] at hi
  have h4 := h3 i (by omega)
  unfold StepOk nd at *
  rw [nd_take _ (by omega), nd_take _ (by omega)]
  exact h4
/- The wires of a way. -/
def wiresTo (w : Nat) (ks : List Int) (k : Nat) : List Nat := (List.range k).map fun i => (wireW w (nd ks i) (nd ks (i + 1))).toNat
def wiresN (w : Nat) (ks : List Int) : List Nat := wiresTo w ks (ks.length - 1)
theorem wiresTo_len (w : Nat) (ks : List Int) (k : Nat) : (wiresTo w ks k).length = k := by simp [wiresTo]
theorem wiresN_len (w : Nat) (ks : List Int) : (wiresN w ks).length = ks.length - 1 := wiresTo_len _ _ _
theorem wiresTo_at (w : Nat) (ks : List Int) {i k : Nat} (h : i < k) : (wiresTo w ks k).getD i 0 = (wireW w (nd ks i) (nd ks (i + 1))).toNat := by
  rw [List.getD_eq_getElem?_getD]; simp [wiresTo, h]
theorem wiresTo_snoc (w : Nat) (ks : List Int) (k : Nat) : wiresTo w ks (k + 1) = wiresTo w ks k ++ [(wireW w (nd ks k) (nd ks (k + 1))).toNat] := by
  simp [wiresTo, List.range_succ]
theorem wire_at {w h : Int} {ks : List Int} (k : WayOk w h ks) {i : Nat} (hi : i + 1 < ks.length) :
    0 ≤ wireW w.toNat (nd ks i) (nd ks (i + 1)) ∧ wireW w.toNat (nd ks i) (nd ks (i + 1)) < 4 * (w * h) := by
  have h1 := (k.2 (i + 1) hi).2 (by omega)
  rw [show i + 1 - 1 = i by omega] at h1
  have h2 := (k.2 i (by omega)).1
  have h3 := wireW_four h1
  have h4 : ((nd ks i : Nat) : Int) = ks.getD i 0 := (okN_lt h2).2
  have h5 := h2.2.2
  rw [← h4] at h5
  refine ⟨h1, ?_⟩
  generalize w * h = x at *
  omega
theorem way_distinct {w h : Int} {ks : List Int} (k : WayOk w h ks) {i : Nat} (hi : i + 1 < (wiresN w.toNat ks).length) :
    (wiresN w.toNat ks).getD i 0 ≠ (wiresN w.toNat ks).getD (i + 1) 0 := by
  have hl := wiresN_len w.toNat ks
  unfold wiresN at hi ⊢
  rw [wiresTo_len] at hi
  rw [wiresTo_at _ _ (by omega), wiresTo_at _ _ (by omega)]
  have h1 := wire_at k (i := i) (by omega)
  have h2 := wire_at k (i := i + 1) (by omega)
  have h3 := wireW_ne h1.1 h2.1
  omega
theorem wires_lt {w h : Int} {ks : List Int} (k : WayOk w h ks) : ∀ u ∈ wiresN w.toNat ks, (u : Int) < 4 * (w * h) := by
  intro u hu
  unfold wiresN wiresTo at hu
  obtain ⟨i, hi, rfl⟩ := List.mem_map.1 hu
  rw [List.mem_range] at hi
  have h1 := wire_at k (i := i) (by omega)
  omega

/- The two routes, as columns and rows below five. -/
def seg (n m : Nat) : List Nat := if n ≤ m then (List.range (m - n)).map (fun i => n + 1 + i) else (List.range (n - m)).map (fun i => n - 1 - i)
def xyR (x y p q : Nat) : List (Nat × Nat) := (seg x p).map (fun i => (i, y)) ++ (seg y q).map (fun i => (p, i))
def yxR (x y p q : Nat) : List (Nat × Nat) := (seg y q).map (fun i => (x, i)) ++ (seg x p).map (fun i => (i, q))
def xyS (x y p q : Nat) : List (Nat × Nat) := (x, y) :: xyR x y p q
def yxS (x y p q : Nat) : List (Nat × Nat) := (x, y) :: yxR x y p q
def near (n m : Nat) : Nat := if n < m then n + 1 else if m < n then n - 1 else n
def sp (l : List (Nat × Nat)) (i : Nat) : Nat × Nat := l.getD i (0, 0)
def dirS (p q : Nat × Nat) : Nat := if q = (p.1 + 1, p.2) then 0 else if p = (q.1 + 1, q.2) then 1 else if q = (p.1, p.2 + 1) then 2 else if p = (q.1, q.2 + 1) then 3 else 4
def rkS (p : Nat × Nat) (d : Nat) : Nat := if d = 0 then p.1 else if d = 1 then 4 - p.1 else if d = 2 then 10 + p.2 else 14 - p.2
def RouteA (x y p q : Nat) : Prop :=
    (xyS p q x y).reverse = yxS x y p q ∧ (xyS x y p q).length = (p - x) + (x - p) + (q - y) + (y - q) + 1 ∧
    sp (xyS x y p q) ((xyS x y p q).length - 1) = (p, q) ∧
    (∀ s ∈ xyS x y p q, (s.1 ≤ x ∨ s.1 ≤ p) ∧ (s.2 ≤ y ∨ s.2 ≤ q)) ∧
    (∀ k < (xyS x y p q).length - 1, dirS (sp (xyS x y p q) k) (sp (xyS x y p q) (k + 1)) < 4) ∧
    (∀ k < (xyS x y p q).length - 2, rkS (sp (xyS x y p q) k) (dirS (sp (xyS x y p q) k) (sp (xyS x y p q) (k + 1))) < rkS (sp (xyS x y p q) (k + 1)) (dirS (sp (xyS x y p q) (k + 1)) (sp (xyS x y p q) (k + 2))))
set_option synthInstance.maxHeartbeats 200000 in
set_option synthInstance.maxSize 2000 in
instance (x y p q : Nat) : Decidable (RouteA x y p q) := by unfold RouteA; infer_instance
theorem all_routes : ∀ x < 5, ∀ y < 5, ∀ p < 5, ∀ q < 5, RouteA x y p q := by decide +kernel
def RouteB (x y p q : Nat) : Prop :=
    (x ≠ p → xyR x y p q = (near x p, y) :: xyR (near x p) y p q) ∧ (x = p → y ≠ q → xyR x y p q = (x, near y q) :: xyR x (near y q) p q) ∧
    (y ≠ q → yxR x y p q = (x, near y q) :: yxR x (near y q) p q) ∧ (y = q → x ≠ p → yxR x y p q = (near x p, y) :: yxR (near x p) y p q) ∧
    xyR x y p y ++ xyR p y p q = xyR x y p q ∧
    (yxS x y p q).length = (xyS x y p q).length ∧ sp (yxS x y p q) ((yxS x y p q).length - 1) = (p, q) ∧
    (∀ s ∈ yxS x y p q, (s.1 ≤ x ∨ s.1 ≤ p) ∧ (s.2 ≤ y ∨ s.2 ≤ q)) ∧
    (∀ k < (yxS x y p q).length - 1, dirS (sp (yxS x y p q) k) (sp (yxS x y p q) (k + 1)) < 4)
set_option synthInstance.maxHeartbeats 200000 in
set_option synthInstance.maxSize 2000 in
instance (x y p q : Nat) : Decidable (RouteB x y p q) := by unfold RouteB; infer_instance
theorem all_steps : ∀ x < 5, ∀ y < 5, ∀ p < 5, ∀ q < 5, RouteB x y p q := by decide +kernel
theorem routes_len {x y p q : Nat} (h1 : x < 5) (h2 : y < 5) (h3 : p < 5) (h4 : q < 5) : (1 ≤ (xyS x y p q).length ∧ (xyS x y p q).length ≤ 30) ∧ (1 ≤ (yxS x y p q).length ∧ (yxS x y p q).length ≤ 30) := by
  have k2 := (all_routes x h1 y h2 p h3 q h4).2.1
  have g := (all_steps x h1 y h2 p h3 q h4).2.2.2.2.2.1
  omega
theorem xyR_nil (x y : Nat) : xyR x y x y = [] := by simp [xyR, seg]
theorem yxR_nil (x y : Nat) : yxR x y x y = [] := by simp [yxR, seg]
/- One of the two, by a mark. -/
def rt (al : Bool) (x y p q : Nat) : List (Nat × Nat) := if al = true then xyR x y p q else yxR x y p q
theorem rt_nil (al : Bool) (x y : Nat) : rt al x y x y = [] := by
  unfold rt
  split
  · exact xyR_nil x y
  · exact yxR_nil x y
theorem rt_x {al : Bool} {x y p q : Nat} (h1 : x < 5) (h2 : y < 5) (h3 : p < 5) (h4 : q < 5) (hx : x ≠ p) (h : al = true ∨ y = q) : rt al x y p q = (near x p, y) :: rt al (near x p) y p q := by
  obtain ⟨g1, g2, g3, g4, _⟩ := all_steps x h1 y h2 p h3 q h4
  unfold rt
  cases al
  · rcases h with h | h
    · cases h
    · exact g4 h hx
  · exact g1 hx
theorem rt_y {al : Bool} {x y p q : Nat} (h1 : x < 5) (h2 : y < 5) (h3 : p < 5) (h4 : q < 5) (hy : y ≠ q) (h : al = true → x = p) : rt al x y p q = (x, near y q) :: rt al x (near y q) p q := by
  obtain ⟨g1, g2, g3, g4, _⟩ := all_steps x h1 y h2 p h3 q h4
  unfold rt
  cases al
  · exact g3 hy
  · exact g2 (h rfl) hy
theorem near_lt {n m : Nat} (h : n ≠ m) : (m - near n m) + (near n m - m) < (m - n) + (n - m) := by unfold near; split <;> (try split) <;> omega
theorem near_le {n m B : Nat} (h1 : n < B) (h2 : m < B) : near n m < B := by unfold near; split <;> (try split) <;> omega
/- Nodes of spots. -/
def atN (w : Nat) (s : Nat × Nat) : Nat := s.1 + w * s.2
def nodes (w : Nat) (l : List (Nat × Nat)) : List Int := l.map fun s => ((atN w s : Nat) : Int)
theorem atN_mod {w : Nat} {s : Nat × Nat} (h : s.1 < w) : atN w s % w = s.1 ∧ atN w s / w = s.2 := by
  unfold atN
  exact ⟨by rw [Nat.add_mul_mod_self_left, Nat.mod_eq_of_lt h], by rw [Nat.add_mul_div_left _ _ (by omega), Nat.div_eq_of_lt h]; omega⟩
theorem atN_lt {w h : Nat} {s : Nat × Nat} (h1 : s.1 < w) (h2 : s.2 < h) : atN w s < w * h := by
  unfold atN
  have h3 : w * (s.2 + 1) ≤ w * h := Nat.mul_le_mul_left w h2
  rw [Nat.mul_add] at h3
  omega
theorem atN_of {w a : Nat} : atN w (a % w, a / w) = a := by
  unfold atN
  exact Nat.mod_add_div a w
theorem nodes_len (w : Nat) (l : List (Nat × Nat)) : (nodes w l).length = l.length := by simp [nodes]
theorem nodes_at (w : Nat) (l : List (Nat × Nat)) {i : Nat} (h : i < l.length) : (nodes w l).getD i 0 = ((atN w (sp l i) : Nat) : Int) := by
  unfold nodes sp
  rw [List.getD_eq_getElem?_getD, List.getD_eq_getElem?_getD, List.getElem?_map, List.getElem?_eq_getElem h]
  rfl
theorem nodes_nd (w : Nat) (l : List (Nat × Nat)) {i : Nat} (h : i < l.length) : nd (nodes w l) i = atN w (sp l i) := by
  unfold nd
  rw [nodes_at w l h]
  rfl
theorem wire_dir {w : Nat} {p q : Nat × Nat} (hp : p.1 < w) (hq : q.1 < w) (hd : dirS p q < 4) : wireW w (atN w p) (atN w q) = ((4 * atN w p + dirS p q : Nat) : Int) := by
  obtain ⟨p1, p2⟩ := p
  obtain ⟨q1, q2⟩ := q
  unfold wireW
  rw [(atN_mod hp).1, (atN_mod hp).2, (atN_mod hq).1, (atN_mod hq).2]
  unfold dirS at *
  simp only [Prod.mk.injEq] at *
  generalize atN w (p1, p2) = X
  by_cases h1 : q1 = p1 + 1 ∧ q2 = p2
  · rw [if_pos ⟨h1.2.symm, h1.1⟩, if_pos h1]; rfl
  rw [if_neg (by omega), if_neg h1]
  by_cases h2 : p1 = q1 + 1 ∧ p2 = q2
  · rw [if_pos ⟨h2.2, h2.1⟩, if_pos h2]
  rw [if_neg (by omega), if_neg h2]
  by_cases h3 : q1 = p1 ∧ q2 = p2 + 1
  · rw [if_pos ⟨h3.1.symm, h3.2⟩, if_pos h3]
  rw [if_neg (by omega), if_neg h3]
  by_cases h4 : p1 = q1 ∧ p2 = q2 + 1
  · rw [if_pos ⟨h4.1, h4.2⟩, if_pos h4]
  exfalso
  rw [if_neg h1, if_neg h2, if_neg h3, if_neg h4] at hd
  omega
/- The routes between nodes. -/
def xyL (w a b : Nat) : List Int := nodes w (xyS (a % w) (a / w) (b % w) (b / w))
def yxL (w a b : Nat) : List Int := nodes w (yxS (a % w) (a / w) (b % w) (b / w))
def routeXY (w h a b : Int) : List Int := if okN w h a ∧ okN w h b then xyL w.toNat a.toNat b.toNat else []
def routeYX (w h a b : Int) : List Int := if okN w h a ∧ okN w h b then yxL w.toNat a.toNat b.toNat else []
/- A node as column and row. -/
theorem rt_full (al : Bool) (w a b : Nat) : (a : Int) :: nodes w (rt al (a % w) (a / w) (b % w) (b / w)) = if al = true then xyL w a b else yxL w a b := by
  unfold rt xyL yxL xyS yxS nodes
  cases al <;> simp [atN_of]
theorem spot_of {w h a : Int} (k : okN w h a) : ∃ W H n : Nat, w = W ∧ h = H ∧ a = n ∧ (1 ≤ W ∧ W ≤ 5) ∧ (1 ≤ H ∧ H ≤ 5) ∧ n % W < W ∧ n / W < H := by
  obtain ⟨⟨⟨h1, h2⟩, h3, h4⟩, h5, h6⟩ := k
  obtain ⟨W, rfl⟩ : ∃ n : Nat, w = n := ⟨w.toNat, by omega⟩
  obtain ⟨H, rfl⟩ : ∃ n : Nat, h = n := ⟨h.toNat, by omega⟩
  obtain ⟨n, rfl⟩ : ∃ n : Nat, a = n := ⟨a.toNat, by omega⟩
  have h7 : n < W * H := by exact_mod_cast h6
  exact ⟨W, H, n, rfl, rfl, rfl, by omega, by omega, Nat.mod_lt _ (by omega), Nat.div_lt_of_lt_mul h7⟩
theorem route_ok {w h : Nat} (hw : 1 ≤ w ∧ w ≤ 5) (hh : 1 ≤ h ∧ h ≤ 5) {l : List (Nat × Nat)} (hl : 1 ≤ l.length ∧ l.length ≤ 30) (hs : ∀ s ∈ l, s.1 < w ∧ s.2 < h) (hd : ∀ k < l.length - 1, dirS (sp l k) (sp l (k + 1)) < 4) :
    WayOk w h (nodes w l) := by
  have hm : ∀ i, i < l.length → (sp l i).1 < w ∧ (sp l i).2 < h := fun i hi => by
    have : sp l i ∈ l := by unfold sp; rw [List.getD_eq_getElem?_getD, List.getElem?_eq_getElem hi]; exact List.getElem_mem hi
    exact hs _ this
  refine ⟨by rw [nodes_len]; exact hl, fun i hi => ?_⟩
  rw [nodes_len] at hi
  unfold StepOk
  rw [nodes_at w l hi]
  refine ⟨⟨⟨by omega, by omega⟩, by omega, ?_⟩, fun hp => ?_⟩
  · have := atN_lt (hm i hi).1 (hm i hi).2
    exact_mod_cast this
  · rw [nodes_nd w l hi, nodes_nd w l (by omega), show (w : Int).toNat = w from rfl]
    have h1 := hd (i - 1) (by omega)
    rw [show i - 1 + 1 = i by omega] at h1
    rw [wire_dir (hm (i - 1) (by omega)).1 (hm i hi).1 h1]
    omega
theorem xy_bounds {w h a b : Nat} (hw : 1 ≤ w ∧ w ≤ 5) (hh : 1 ≤ h ∧ h ≤ 5) (ha : a < w * h) (hb : b < w * h) :
    (a % w < 5 ∧ a % w < w) ∧ (a / w < 5 ∧ a / w < h) ∧ (b % w < 5 ∧ b % w < w) ∧ (b / w < 5 ∧ b / w < h) := by
  have h1 : a % w < w := Nat.mod_lt _ (by omega)
  have h2 : b % w < w := Nat.mod_lt _ (by omega)
  have h3 : a / w < h := Nat.div_lt_of_lt_mul ha
  have h4 : b / w < h := Nat.div_lt_of_lt_mul hb
  exact ⟨⟨by omega, h1⟩, ⟨by omega, h3⟩, ⟨by omega, h2⟩, by omega, h4⟩
theorem xyL_ok {w h a b : Nat} (hw : 1 ≤ w ∧ w ≤ 5) (hh : 1 ≤ h ∧ h ≤ 5) (ha : a < w * h) (hb : b < w * h) : WayOk w h (xyL w a b) := by
  obtain ⟨⟨h1, h1'⟩, ⟨h2, h2'⟩, ⟨h3, h3'⟩, h4, h4'⟩ := xy_bounds hw hh ha hb
  obtain ⟨k1, k2, k3, k4, k5, k6⟩ := all_routes _ h1 _ h2 _ h3 _ h4
  refine route_ok (l := xyS (a % w) (a / w) (b % w) (b / w)) hw hh (routes_len h1 h2 h3 h4).1 (fun s hs => ?_) k5
  have := k4 s hs
  omega
theorem yxL_ok {w h a b : Nat} (hw : 1 ≤ w ∧ w ≤ 5) (hh : 1 ≤ h ∧ h ≤ 5) (ha : a < w * h) (hb : b < w * h) : WayOk w h (yxL w a b) := by
  obtain ⟨⟨h1, h1'⟩, ⟨h2, h2'⟩, ⟨h3, h3'⟩, h4, h4'⟩ := xy_bounds hw hh ha hb
  obtain ⟨k1, k2, k3, k4, k5, k6⟩ := all_routes _ h1 _ h2 _ h3 _ h4
  obtain ⟨g1, g2, g3, g4, g5, g6, g7, g8, g9⟩ := all_steps _ h1 _ h2 _ h3 _ h4
  refine route_ok (l := yxS (a % w) (a / w) (b % w) (b / w)) hw hh (routes_len h1 h2 h3 h4).2 (fun s hs => ?_) g9
  have := g8 s hs
  omega
theorem xyL_rev {w h a b : Nat} (hw : 1 ≤ w ∧ w ≤ 5) (hh : 1 ≤ h ∧ h ≤ 5) (ha : a < w * h) (hb : b < w * h) : (xyL w b a).reverse = yxL w a b := by
  obtain ⟨⟨h1, h1'⟩, ⟨h2, h2'⟩, ⟨h3, h3'⟩, h4, h4'⟩ := xy_bounds hw hh ha hb
  obtain ⟨k1, k2, k3, k4, k5, k6⟩ := all_routes _ h1 _ h2 _ h3 _ h4
  unfold xyL yxL nodes
  rw [← List.map_reverse, k1]
theorem route_rev (w h a b : Int) : (routeXY w h b a).reverse = routeYX w h a b := by
  unfold routeXY routeYX
  by_cases hk : okN w h a ∧ okN w h b
  · rw [if_pos ⟨hk.2, hk.1⟩, if_pos hk]
    obtain ⟨⟨⟨⟨h1, h2⟩, h3, h4⟩, h5, h6⟩, ⟨_, h7, h8⟩⟩ := hk
    obtain ⟨W, rfl⟩ : ∃ n : Nat, w = n := ⟨w.toNat, by omega⟩
    obtain ⟨H, rfl⟩ : ∃ n : Nat, h = n := ⟨h.toNat, by omega⟩
    obtain ⟨n, rfl⟩ : ∃ n : Nat, a = n := ⟨a.toNat, by omega⟩
    obtain ⟨m, rfl⟩ : ∃ n : Nat, b = n := ⟨b.toNat, by omega⟩
    exact xyL_rev (h := H) (by omega) (by omega) (by exact_mod_cast h6) (by exact_mod_cast h8)
  · rw [if_neg (fun k => hk ⟨k.2, k.1⟩), if_neg hk]; rfl
theorem route_valid {w h a b : Int} (k : okN w h a ∧ okN w h b) : WayOk w h (routeXY w h a b) ∧ WayOk w h (routeYX w h a b) := by
  unfold routeXY routeYX
  rw [if_pos k, if_pos k]
  obtain ⟨⟨⟨⟨h1, h2⟩, h3, h4⟩, h5, h6⟩, ⟨_, h7, h8⟩⟩ := k
  obtain ⟨W, rfl⟩ : ∃ n : Nat, w = n := ⟨w.toNat, by omega⟩
  obtain ⟨H, rfl⟩ : ∃ n : Nat, h = n := ⟨h.toNat, by omega⟩
  obtain ⟨n, rfl⟩ : ∃ n : Nat, a = n := ⟨a.toNat, by omega⟩
  obtain ⟨m, rfl⟩ : ∃ n : Nat, b = n := ⟨b.toNat, by omega⟩
  exact ⟨xyL_ok (h := H) (by omega) (by omega) (by exact_mod_cast h6) (by exact_mod_cast h8), yxL_ok (h := H) (by omega) (by omega) (by exact_mod_cast h6) (by exact_mod_cast h8)⟩
/- Rising numbers along a route. -/
def rk (w u : Nat) : Nat := rkS (u / 4 % w, u / 4 / w) (u % 4)
theorem rk_le {w u : Nat} (hw : w ≤ 5) (hw0 : 0 < w) (hu : u / 4 / w < 5) : rk w u ≤ 14 := by
  have h1 : u / 4 % w < w := Nat.mod_lt _ hw0
  unfold rk rkS
  generalize u / 4 % w = x at *
  generalize u / 4 / w = y at *
  repeat' split
  all_goals (simp only []; omega)
theorem xyL_rise {w h a b : Nat} (hw : 1 ≤ w ∧ w ≤ 5) (hh : 1 ≤ h ∧ h ≤ 5) (ha : a < w * h) (hb : b < w * h) {k : Nat} (hk : k + 2 < (xyL w a b).length) :
    rk w ((wireW w (nd (xyL w a b) k) (nd (xyL w a b) (k + 1))).toNat) < rk w ((wireW w (nd (xyL w a b) (k + 1)) (nd (xyL w a b) (k + 2))).toNat) := by
  obtain ⟨⟨h1, h1'⟩, ⟨h2, h2'⟩, ⟨h3, h3'⟩, h4, h4'⟩ := xy_bounds hw hh ha hb
  obtain ⟨k1, k2, k3, k4, k5, k6⟩ := all_routes _ h1 _ h2 _ h3 _ h4
  unfold xyL at hk ⊢
  rw [nodes_len] at hk
  revert hk
  revert k6
  revert k5
  revert k4
  generalize xyS (a % w) (a / w) (b % w) (b / w) = l
  intro k4 k5 k6 hk
  rw [nodes_nd w l (by omega), nodes_nd w l (by omega), nodes_nd w l (by omega)]
  have hm : ∀ i, i < l.length → (sp l i).1 < w := fun i hi => by
    have : sp l i ∈ l := by unfold sp; rw [List.getD_eq_getElem?_getD, List.getElem?_eq_getElem hi]; exact List.getElem_mem hi
    have := k4 _ this
    omega
  have d1 := k5 k (by omega)
  have d2 := k5 (k + 1) (by omega)
  have key := k6 k (by omega)
  rw [wire_dir (hm k (by omega)) (hm (k + 1) (by omega)) d1, wire_dir (hm (k + 1) (by omega)) (hm (k + 2) (by omega)) d2]
  have hr : ∀ (s : Nat × Nat) (d : Nat), s.1 < w → d < 4 → rk w (((4 * atN w s + d : Nat) : Int)).toNat = rkS s d := by
    intro s d hs hd
    unfold rk
    rw [show (((4 * atN w s + d : Nat) : Int)).toNat = 4 * atN w s + d from rfl, show (4 * atN w s + d) / 4 = atN w s by omega, show (4 * atN w s + d) % 4 = d by omega, (atN_mod hs).1, (atN_mod hs).2]
  rw [hr _ _ (hm k (by omega)) d1, hr _ _ (hm (k + 1) (by omega)) d2]
  exact key
/- Which wires stand behind which. -/
def PairTo (us : List Nat) (m p q : Nat) : Prop := ∃ k, k + 1 < m ∧ us.getD k 0 = p ∧ us.getD (k + 1) 0 = q
def Waits (uss : List (List Nat)) (p q : Nat) : Prop := ∃ us ∈ uss, PairTo us us.length p q
def WaitsTo (uss : List (List Nat)) (i m p q : Nat) : Prop := (∃ us ∈ uss.take i, PairTo us us.length p q) ∨ PairTo (uss.getD i []) m p q
theorem waitsTo_zero (uss : List (List Nat)) (p q : Nat) : ¬ WaitsTo uss 0 0 p q := by
  rintro (⟨us, hu, _⟩ | ⟨k, hk, _⟩)
  · simp at hu
  · omega
theorem pairTo_one (us : List Nat) (p q m : Nat) (hm : m ≤ 1) : ¬ PairTo us m p q := by
  rintro ⟨k, hk, _⟩
  omega
theorem pairTo_succ {us : List Nat} {m p q : Nat} (hm : 0 < m) : PairTo us (m + 1) p q ↔ PairTo us m p q ∨ (us.getD (m - 1) 0 = p ∧ us.getD m 0 = q) := by
  constructor
  · rintro ⟨k, hk, h1, h2⟩
    by_cases h : k + 1 < m
    · exact Or.inl ⟨k, h, h1, h2⟩
    · have : k = m - 1 := by omega
      subst this
      rw [show m - 1 + 1 = m by omega] at h2
      exact Or.inr ⟨h1, h2⟩
  · rintro (⟨k, hk, h1, h2⟩ | ⟨h1, h2⟩)
    · exact ⟨k, by omega, h1, h2⟩
    · exact ⟨m - 1, by omega, h1, by rw [show m - 1 + 1 = m by omega]; exact h2⟩
theorem waitsTo_step {uss : List (List Nat)} {i m p q : Nat} (hm : 0 < m) : WaitsTo uss i (m + 1) p q ↔ WaitsTo uss i m p q ∨ ((uss.getD i []).getD (m - 1) 0 = p ∧ (uss.getD i []).getD m 0 = q) := by
  unfold WaitsTo
  rw [pairTo_succ hm, or_assoc]
theorem waitsTo_one {uss : List (List Nat)} {i p q : Nat} : WaitsTo uss i 1 p q ↔ WaitsTo uss i 0 p q := by
  unfold WaitsTo
  have h1 := pairTo_one (uss.getD i []) p q 1 (Nat.le_refl _)
  have h2 := pairTo_one (uss.getD i []) p q 0 (by omega)
  constructor
  · rintro (h | h)
    · exact Or.inl h
    · exact absurd h h1
  · rintro (h | h)
    · exact Or.inl h
    · exact absurd h h2
theorem waitsTo_next {uss : List (List Nat)} {i p q : Nat} (hi : i < uss.length) {m : Nat} (hm : (uss.getD i []).length ≤ m) (hm2 : m ≤ (uss.getD i []).length ∨ m ≤ 1) : WaitsTo uss (i + 1) 0 p q ↔ WaitsTo uss i m p q := by
  have hg : uss[i]? = some (uss.getD i []) := by rw [List.getD_eq_getElem?_getD, List.getElem?_eq_getElem hi]; rfl
  have ht : uss.take (i + 1) = uss.take i ++ [uss.getD i []] := by rw [List.take_add_one, hg]; rfl
  have hz : ∀ us, ¬ PairTo us 0 p q := fun us => pairTo_one us p q 0 (by omega)
  unfold WaitsTo
  rw [ht]
  constructor
  · rintro (⟨us, hu, h⟩ | h)
    · rcases List.mem_append.1 hu with hu | hu
      · exact Or.inl ⟨us, hu, h⟩
      · rw [List.mem_singleton] at hu
        subst hu
        obtain ⟨k, hk, h⟩ := h
        exact Or.inr ⟨k, by omega, h⟩
    · exact absurd h (hz _)
  · rintro (⟨us, hu, h⟩ | h)
    · exact Or.inl ⟨us, List.mem_append_left _ hu, h⟩
    · refine Or.inl ⟨_, List.mem_append_right _ (List.mem_singleton.2 rfl), ?_⟩
      obtain ⟨k, hk, h⟩ := h
      exact ⟨k, by omega, h⟩
theorem waitsTo_all {uss : List (List Nat)} {p q : Nat} : WaitsTo uss uss.length 0 p q ↔ Waits uss p q := by
  unfold WaitsTo Waits
  rw [List.take_length]
  constructor
  · rintro (h | h)
    · exact h
    · exact absurd h (pairTo_one _ p q 0 (by omega))
  · exact Or.inl
theorem waits_lt {uss : List (List Nat)} {N p q : Nat} (hN : ∀ us ∈ uss, ∀ u ∈ us, u < N) (h : Waits uss p q) : p < N ∧ q < N := by
  obtain ⟨us, hu, k, hk, rfl, rfl⟩ := h
  have hm : ∀ i, i < us.length → us.getD i 0 ∈ us := fun i hi => by rw [List.getD_eq_getElem?_getD, List.getElem?_eq_getElem hi]; exact List.getElem_mem hi
  exact ⟨hN us hu _ (hm _ (by omega)), hN us hu _ (hm _ hk)⟩
theorem waitsTo_waits {uss : List (List Nat)} {i m p q : Nat} (hi : i < uss.length) (hm : m ≤ (uss.getD i []).length) (h : WaitsTo uss i m p q) : Waits uss p q := by
  have hg : uss.getD i [] ∈ uss := by rw [List.getD_eq_getElem?_getD, List.getElem?_eq_getElem hi]; exact List.getElem_mem hi
  rcases h with ⟨us, hu, h⟩ | ⟨k, hk, h⟩
  · exact ⟨us, List.mem_of_mem_take hu, h⟩
  · exact ⟨_, hg, k, by omega, h⟩

/- Pairs in their order. -/
open Classical in
noncomputable def pl (N : Nat) (R : Nat → Nat → Prop) (k : Nat) : List (Nat × Nat) := ((List.range k).filter fun j => decide (R (j / N) (j % N))).map fun j => (j / N, j % N)
open Classical in
theorem pl_yes {N k : Nat} {R : Nat → Nat → Prop} (h : R (k / N) (k % N)) : pl N R (k + 1) = pl N R k ++ [(k / N, k % N)] := by
  unfold pl
  rw [List.range_succ, List.filter_append, List.map_append]
  simp [h]
open Classical in
theorem pl_no {N k : Nat} {R : Nat → Nat → Prop} (h : ¬ R (k / N) (k % N)) : pl N R (k + 1) = pl N R k := by
  unfold pl
  rw [List.range_succ, List.filter_append, List.map_append]
  simp [h]
theorem pl_zero (N : Nat) (R : Nat → Nat → Prop) : pl N R 0 = [] := by simp [pl]
open Classical in
theorem pl_len (N : Nat) (R : Nat → Nat → Prop) (k : Nat) : (pl N R k).length ≤ k := by
  unfold pl
  rw [List.length_map]
  exact Nat.le_trans (List.length_filter_le _ _) (by simp)
open Classical in
theorem pl_mem {N : Nat} {R : Nat → Nat → Prop} (hN : 0 < N) {p q : Nat} : (p, q) ∈ pl N R (N * N) ↔ (p < N ∧ q < N) ∧ R p q := by
  unfold pl
  rw [List.mem_map]
  constructor
  · rintro ⟨j, hj, he⟩
    rw [List.mem_filter, List.mem_range] at hj
    obtain ⟨h1, h2⟩ := hj
    rw [decide_eq_true_eq] at h2
    rw [Prod.mk.injEq] at he
    obtain ⟨rfl, rfl⟩ := he
    exact ⟨⟨Nat.div_lt_of_lt_mul h1, Nat.mod_lt _ hN⟩, h2⟩
  · rintro ⟨⟨h1, h2⟩, h3⟩
    refine ⟨q + N * p, ?_, ?_⟩
    · rw [List.mem_filter, List.mem_range, decide_eq_true_eq]
      have h5 : N * (p + 1) ≤ N * N := Nat.mul_le_mul_left N h1
      rw [Nat.mul_add] at h5
      refine ⟨by omega, ?_⟩
      rw [Nat.add_mul_div_left _ _ hN, Nat.div_eq_of_lt h2, Nat.add_mul_mod_self_left, Nat.mod_eq_of_lt h2, Nat.zero_add]
      exact h3
    · rw [Nat.add_mul_div_left _ _ hN, Nat.div_eq_of_lt h2, Nat.add_mul_mod_self_left, Nat.mod_eq_of_lt h2, Nat.zero_add]
def lex (x y : Nat × Nat) : Prop := x.1 < y.1 ∨ (x.1 = y.1 ∧ x.2 < y.2)
open Classical in
theorem pl_sorted (N : Nat) (R : Nat → Nat → Prop) (k : Nat) : (pl N R k).Pairwise lex := by
  unfold pl
  rw [List.pairwise_map]
  refine List.Pairwise.imp ?_ (List.Pairwise.filter _ List.pairwise_lt_range)
  intro a b hab
  unfold lex
  simp only []
  have h1 : a / N ≤ b / N := Nat.div_le_div_right (Nat.le_of_lt hab)
  by_cases h : a / N = b / N
  · refine Or.inr ⟨h, ?_⟩
    have h2 := Nat.div_add_mod a N
    have h3 := Nat.div_add_mod b N
    rw [h] at h2
    omega
  · exact Or.inl (by omega)
theorem lex_irrefl (x : Nat × Nat) : ¬ lex x x := by unfold lex; omega
theorem lex_asym {x y : Nat × Nat} (h : lex x y) : ¬ lex y x := by unfold lex at *; omega
theorem sorted_same : ∀ {l m : List (Nat × Nat)}, l.Pairwise lex → m.Pairwise lex → (∀ x, x ∈ l ↔ x ∈ m) → l = m
  | [], [], _, _, _ => rfl
  | [], y :: m, _, _, h => absurd ((h y).2 List.mem_cons_self) (by simp)
  | x :: l, [], _, _, h => absurd ((h x).1 List.mem_cons_self) (by simp)
  | x :: l, y :: m, hl, hm, h => by
    rw [List.pairwise_cons] at hl hm
    have hxy : x = y := by
      rcases List.mem_cons.1 ((h x).1 List.mem_cons_self) with e | h1
      · exact e
      rcases List.mem_cons.1 ((h y).2 List.mem_cons_self) with e | h2
      · exact e.symm
      exact absurd (hl.1 y h2) (lex_asym (hm.1 x h1))
    subst hxy
    have key : ∀ z, z ∈ l ↔ z ∈ m := by
      intro z
      constructor
      · intro hz
        rcases List.mem_cons.1 ((h z).1 (List.mem_cons_of_mem _ hz)) with e | h1
        · subst e; exact absurd (hl.1 z hz) (lex_irrefl z)
        · exact h1
      · intro hz
        rcases List.mem_cons.1 ((h z).2 (List.mem_cons_of_mem _ hz)) with e | h1
        · subst e; exact absurd (hm.1 z hz) (lex_irrefl z)
        · exact h1
    rw [sorted_same hl.2 hm.2 key]
theorem pl_same {N M : Nat} {R : Nat → Nat → Prop} (hN : 0 < N) (hM : 0 < M) (h1 : ∀ p q, R p q → p < N ∧ q < N) (h2 : ∀ p q, R p q → p < M ∧ q < M) : pl N R (N * N) = pl M R (M * M) := by
  refine sorted_same (pl_sorted _ _ _) (pl_sorted _ _ _) ?_
  rintro ⟨p, q⟩
  rw [pl_mem hN, pl_mem hM]
  exact ⟨fun h => ⟨h2 p q h.2, h.2⟩, fun h => ⟨h1 p q h.2, h.2⟩⟩
/- The pairs as lists of two numbers. -/
def rows (l : List (Nat × Nat)) : List (List Int) := l.map fun x => [(x.1 : Int), (x.2 : Int)]
theorem rows_len (l : List (Nat × Nat)) : (rows l).length = l.length := by simp [rows]
theorem rows_snoc (l : List (Nat × Nat)) (x : Nat × Nat) : rows (l ++ [x]) = rows l ++ [[(x.1 : Int), (x.2 : Int)]] := by simp [rows]

/- Rounds. -/
def Round (R : Nat → Nat → Prop) : Prop := ∃ S : Nat → Prop, (∃ p, S p) ∧ ∀ p, S p → ∃ q, R p q ∧ S q
inductive Path (R : Nat → Nat → Prop) : Nat → Nat → Prop
  | one {p q : Nat} : R p q → Path R p q
  | cons {p q r : Nat} : R p q → Path R q r → Path R p r
theorem Path.snoc {R : Nat → Nat → Prop} {p q r : Nat} (h : Path R p q) (k : R q r) : Path R p r := by
  induction h with
  | one h => exact .cons h (.one k)
  | cons h _ ih => exact .cons h (ih k)
theorem Path.round {R : Nat → Nat → Prop} {p : Nat} (h : Path R p p) : Round R := by
  refine ⟨fun x => Path R x p, ⟨p, h⟩, fun x hx => ?_⟩
  cases hx with
  | one k => exact ⟨p, k, h⟩
  | cons k t => exact ⟨_, k, t⟩
def Safe (R : Nat → Nat → Prop) (u : Nat) : Prop := Acc (fun a b => R b a) u
theorem safe_of {R : Nat → Nat → Prop} {u : Nat} (h : ∀ v, R u v → Safe R v) : Safe R u := Acc.intro u fun v hv => h v hv
theorem safe_not {R : Nat → Nat → Prop} {S : Nat → Prop} (hS : ∀ p, S p → ∃ q, R p q ∧ S q) {u : Nat} (h : Safe R u) : ¬ S u := by
  induction h with
  | intro u _ ih =>
    intro hu
    obtain ⟨q, h1, h2⟩ := hS u hu
    exact ih q h1 h2
theorem no_round {R : Nat → Nat → Prop} {N : Nat} (hN : ∀ p q, R p q → p < N ∧ q < N) (h : ∀ u, u < N → Safe R u) : ¬ Round R := by
  rintro ⟨S, ⟨p, hp⟩, hS⟩
  obtain ⟨q, h1, h2⟩ := hS p hp
  exact safe_not hS (h p (hN p q h1).1) hp
theorem rise_no_round {R : Nat → Nat → Prop} (f : Nat → Nat) (K : Nat) (h : ∀ p q, R p q → f p < f q ∧ f q ≤ K) : ¬ Round R := by
  rintro ⟨S, ⟨p, hp⟩, hS⟩
  have key : ∀ n p, S p → K - f p ≤ n → False := by
    intro n
    induction n with
    | zero =>
      intro p hp hn
      obtain ⟨q, h1, h2⟩ := hS p hp
      have := h p q h1
      omega
    | succ n ih =>
      intro p hp hn
      obtain ⟨q, h1, h2⟩ := hS p hp
      have := h p q h1
      exact ih q h2 (by omega)
  exact key _ p hp (Nat.le_refl _)
/- Taking away the pairs behind which there is nothing. -/
def prune (L : List (Nat × Nat)) : List (Nat × Nat) := L.filter fun x => L.any fun y => y.1 == x.2
def Keeps (R : Nat → Nat → Prop) (L : List (Nat × Nat)) : Prop := (∀ x ∈ L, R x.1 x.2) ∧ ∀ S : Nat → Prop, (∀ p, S p → ∃ q, R p q ∧ S q) → ∀ p, S p → ∃ q, (p, q) ∈ L ∧ S q
theorem keeps_prune {R : Nat → Nat → Prop} {L : List (Nat × Nat)} (h : Keeps R L) : Keeps R (prune L) := by
  refine ⟨fun x hx => h.1 x (List.mem_filter.1 hx).1, fun S hS p hp => ?_⟩
  obtain ⟨q, h1, h2⟩ := h.2 S hS p hp
  obtain ⟨r, h3, h4⟩ := h.2 S hS q h2
  refine ⟨q, List.mem_filter.2 ⟨h1, ?_⟩, h2⟩
  rw [List.any_eq_true]
  exact ⟨(q, r), h3, by simp⟩
theorem keeps_end {R : Nat → Nat → Prop} {L : List (Nat × Nat)} (h : Keeps R L) (he : (prune L).length = L.length) : (0 < L.length) ↔ Round R := by
  constructor
  · intro hl
    have hall : ∀ x ∈ L, L.any (fun y => y.1 == x.2) = true := by
      have := List.length_filter_eq_length_iff.1 he
      exact this
    obtain ⟨x, hx⟩ := List.exists_mem_of_length_pos hl
    refine ⟨fun p => ∃ q, (p, q) ∈ L, ⟨x.1, x.2, hx⟩, ?_⟩
    rintro p ⟨q, hq⟩
    have h1 := hall _ hq
    rw [List.any_eq_true] at h1
    obtain ⟨⟨a, b⟩, hy, he2⟩ := h1
    simp only [beq_iff_eq] at he2
    subst he2
    exact ⟨a, h.1 _ hq, b, hy⟩
  · rintro ⟨S, ⟨p, hp⟩, hS⟩
    obtain ⟨q, h1, _⟩ := h.2 S hS p hp
    exact List.length_pos_of_mem h1
theorem keeps_pl {R : Nat → Nat → Prop} {N : Nat} (hN : 0 < N) (h1 : ∀ p q, R p q → p < N ∧ q < N) : Keeps R (pl N R (N * N)) := by
  refine ⟨?_, fun S hS p hp => ?_⟩
  · rintro ⟨p, q⟩ hx
    exact ((pl_mem hN).1 hx).2
  · obtain ⟨q, h2, h3⟩ := hS p hp
    exact ⟨q, (pl_mem hN).2 ⟨h1 p q h2, h2⟩, h3⟩

/- The search with colours: 0 not come to, 1 on the way, 2 done. -/
def SafeCol (R : Nat → Nat → Prop) (c : Nat → Nat) : Prop := (∀ u, c u = 2 → Safe R u) ∧ ∀ u, c u ≤ 2
def Later (c d : Nat → Nat) : Prop := ∀ u, d u = c u ∨ (c u = 0 ∧ d u = 2)
theorem Later.refl (c : Nat → Nat) : Later c c := fun _ => Or.inl rfl
theorem Later.trans {c d e : Nat → Nat} (h : Later c d) (k : Later d e) : Later c e := fun u => by
  rcases h u with h1 | h1 <;> rcases k u with k1 | k1
  · exact Or.inl (by omega)
  · exact Or.inr (by omega)
  · exact Or.inr (by omega)
  · omega
def upd {α : Type} (f : Nat → α) (i : Nat) (x : α) : Nat → α := fun j => if j = i then x else f j
theorem upd_self {α : Type} (f : Nat → α) (i : Nat) (x : α) : upd f i x i = x := by unfold upd; rw [if_pos rfl]
theorem upd_ne {α : Type} (f : Nat → α) {i j : Nat} (x : α) (h : j ≠ i) : upd f i x j = f j := by unfold upd; rw [if_neg h]
theorem safeCol_grey {R : Nat → Nat → Prop} {c : Nat → Nat} (h : SafeCol R c) (u : Nat) : SafeCol R (upd c u 1) := by
  refine ⟨fun v hv => ?_, fun v => ?_⟩
  · by_cases e : v = u
    · subst e; rw [upd_self] at hv; omega
    · rw [upd_ne _ _ e] at hv; exact h.1 v hv
  · by_cases e : v = u
    · subst e; rw [upd_self]; omega
    · rw [upd_ne _ _ e]; exact h.2 v
theorem safeCol_black {R : Nat → Nat → Prop} {c : Nat → Nat} {N : Nat} (h : SafeCol R c) (u : Nat) (hN : ∀ v, R u v → v < N) (hd : ∀ v, v < N → R u v → c v = 2) : SafeCol R (upd c u 2) := by
  refine ⟨fun v hv => ?_, fun v => ?_⟩
  · by_cases e : v = u
    · subst e; exact safe_of fun x hx => h.1 x (hd x (hN x hx) hx)
    · rw [upd_ne _ _ e] at hv; exact h.1 v hv
  · by_cases e : v = u
    · subst e; rw [upd_self]; omega
    · rw [upd_ne _ _ e]; exact h.2 v
theorem later_close {c d : Nat → Nat} {u : Nat} (h0 : c u = 0) (h : Later (upd c u 1) d) : Later c (upd d u 2) := fun v => by
  by_cases e : v = u
  · subst e; exact Or.inr ⟨h0, upd_self _ _ _⟩
  · rw [upd_ne _ _ e]
    have h1 := h v
    rw [upd_ne _ _ e] at h1
    exact h1
theorem later_grey {c d : Nat → Nat} (h : Later c d) {u : Nat} : d u = 1 → c u = 1 := by have := h u; omega
theorem later_black {c d : Nat → Nat} (h : Later c d) {u : Nat} : c u = 2 → d u = 2 := by have := h u; omega
theorem later_white {c d : Nat → Nat} (h : Later c d) {u : Nat} : d u = 0 → c u = 0 := by have := h u; omega
/- Worms: how many wires each has taken, which have arrived, and which wires are held. -/
structure WS where
  t : Nat → Nat
  d : Nat → Bool
  hd : Nat → Bool
def wsAt (uss : List (List Nat)) (i : Nat) : List Nat := uss.getD i []
def wAt (uss : List (List Nat)) (i k : Nat) : Nat := (wsAt uss i).getD k 0
def free (us : List Nat) (n : Nat) (hd : Nat → Bool) : Nat → Bool := if 0 < n then upd hd (us.getD (n - 1) 0) false else hd
def turnW (uss : List (List Nat)) (i : Nat) (S : WS) : WS × Bool :=
  if S.d i = true then (S, false)
  else if S.t i = (wsAt uss i).length then (⟨S.t, upd S.d i true, free (wsAt uss i) (S.t i) S.hd⟩, true)
  else if S.hd (wAt uss i (S.t i)) = true then (S, false)
  else (⟨upd S.t i (S.t i + 1), S.d, upd (free (wsAt uss i) (S.t i) S.hd) (wAt uss i (S.t i)) true⟩, true)
def turnsTo (uss : List (List Nat)) : Nat → WS → WS × Bool
  | 0, S => (S, false)
  | i + 1, S => ((turnW uss i (turnsTo uss i S).1).1, (turnsTo uss i S).2 || (turnW uss i (turnsTo uss i S).1).2)
def stepW (uss : List (List Nat)) (S : WS) : WS × Bool := turnsTo uss uss.length S
def startW : WS := ⟨fun _ => 0, fun _ => false, fun _ => false⟩
def stAt (uss : List (List Nat)) : Nat → WS
  | 0 => startW
  | k + 1 => (stepW uss (stAt uss k)).1
def didW (uss : List (List Nat)) (k : Nat) : Bool := (stepW uss (stAt uss k)).2
def leftW (uss : List (List Nat)) (S : WS) : Bool := (List.range uss.length).any fun i => !S.d i
def OnW (uss : List (List Nat)) (k : Nat) : Prop := ∀ j, j < k → leftW uss (stAt uss j) = true ∧ didW uss j = true
def EndW (uss : List (List Nat)) (k : Nat) (s : Bool) : Prop :=
  (s = false ∧ OnW uss k ∧ leftW uss (stAt uss k) = false) ∨ (s = true ∧ ∃ j, k = j + 1 ∧ OnW uss j ∧ leftW uss (stAt uss j) = true ∧ didW uss j = false)
def doneL (uss : List (List Nat)) (S : WS) : List Bool := (List.range uss.length).map S.d
theorem end_one {uss : List (List Nat)} {k k' : Nat} {s s' : Bool} (h : EndW uss k s) (h' : EndW uss k' s') : k = k' ∧ s = s' := by
  rcases h with ⟨rfl, h1, h2⟩ | ⟨rfl, j, rfl, h1, h2, h3⟩ <;> rcases h' with ⟨rfl, g1, g2⟩ | ⟨rfl, j', rfl, g1, g2, g3⟩
  · refine ⟨?_, rfl⟩
    rcases Nat.lt_trichotomy k k' with h | h | h
    · have := (g1 k h).1; rw [h2] at this; cases this
    · exact h
    · have := (h1 k' h).1; rw [g2] at this; cases this
  · exfalso
    rcases Nat.lt_trichotomy k j' with h | h | h
    · have := (g1 k h).1; rw [h2] at this; cases this
    · subst h; rw [h2] at g2; cases g2
    · have := (h1 j' h).2; rw [g3] at this; cases this
  · exfalso
    rcases Nat.lt_trichotomy k' j with h | h | h
    · have := (h1 k' h).1; rw [g2] at this; cases this
    · subst h; rw [g2] at h2; cases h2
    · have := (g1 j h).2; rw [h3] at this; cases this
  · refine ⟨?_, rfl⟩
    rcases Nat.lt_trichotomy j j' with h | h | h
    · have := (g1 j h).2; rw [h3] at this; cases this
    · rw [h]
    · have := (h1 j' h).2; rw [g3] at this; cases this
/- How much there is left to do. -/
def muOne (uss : List (List Nat)) (S : WS) (i : Nat) : Nat := ((wsAt uss i).length - S.t i) + (!S.d i).toNat
def muTo (uss : List (List Nat)) (S : WS) : Nat → Nat
  | 0 => 0
  | i + 1 => muTo uss S i + muOne uss S i
def mu (uss : List (List Nat)) (S : WS) : Nat := muTo uss S uss.length
theorem muTo_le {uss : List (List Nat)} {S T : WS} {n : Nat} (h : ∀ i, i < n → muOne uss T i ≤ muOne uss S i) : muTo uss T n ≤ muTo uss S n := by
  induction n with
  | zero => exact Nat.le_refl _
  | succ n ih =>
    have h1 := ih (fun i hi => h i (by omega))
    have h2 := h n (by omega)
    show muTo uss T n + muOne uss T n ≤ muTo uss S n + muOne uss S n
    omega
theorem muTo_lt {uss : List (List Nat)} {S T : WS} {n k : Nat} (hk : k < n) (h : ∀ i, i < n → muOne uss T i ≤ muOne uss S i) (hlt : muOne uss T k < muOne uss S k) : muTo uss T n < muTo uss S n := by
  induction n with
  | zero => omega
  | succ n ih =>
    show muTo uss T n + muOne uss T n < muTo uss S n + muOne uss S n
    have h2 := h n (by omega)
    by_cases e : k = n
    · subst e
      have h1 := muTo_le (uss := uss) (S := S) (T := T) (n := k) (fun i hi => h i (by omega))
      omega
    · have h1 := ih (by omega) (fun i hi => h i (by omega))
      omega
theorem turn_mu (uss : List (List Nat)) (i : Nat) (S : WS) (hS : S.t i ≤ (wsAt uss i).length) :
    (∀ j, muOne uss (turnW uss i S).1 j ≤ muOne uss S j) ∧ ((turnW uss i S).2 = true → muOne uss (turnW uss i S).1 i + 1 = muOne uss S i) := by
  unfold turnW
  split
  · exact ⟨fun j => Nat.le_refl _, fun h => by cases h⟩
  rename_i hd
  split
  · refine ⟨fun j => ?_, fun _ => ?_⟩
    · unfold muOne
      simp only []
      by_cases e : j = i
      · subst e; rw [upd_self]; simp
      · rw [upd_ne _ _ e]; exact Nat.le_refl _
    · unfold muOne
      simp only []
      have hd' : S.d i = false := by simpa using hd
      rw [upd_self, hd']; simp
  rename_i ht
  split
  · exact ⟨fun j => Nat.le_refl _, fun h => by cases h⟩
  refine ⟨fun j => ?_, fun _ => ?_⟩
  · unfold muOne
    simp only []
    by_cases e : j = i
    · subst e; rw [upd_self]; omega
    · rw [upd_ne _ _ e]; exact Nat.le_refl _
  · unfold muOne
    simp only []
    rw [upd_self]; omega
/- What is so all the time. -/
def InvW (uss : List (List Nat)) (S : WS) : Prop :=
  (∀ i, S.t i ≤ (wsAt uss i).length) ∧ (∀ i, S.d i = true → S.t i = (wsAt uss i).length) ∧
  (∀ p, S.hd p = true → ∃ i, i < uss.length ∧ S.d i = false ∧ 0 < S.t i ∧ wAt uss i (S.t i - 1) = p)
theorem inv_start (uss : List (List Nat)) : InvW uss startW := ⟨fun _ => Nat.zero_le _, (fun _ h => by cases h), fun _ h => by cases h⟩
theorem inv_turn {uss : List (List Nat)} {i : Nat} {S : WS} (hi : i < uss.length) (h : InvW uss S) : InvW uss (turnW uss i S).1 := by
  obtain ⟨h1, h2, h3⟩ := h
  have hfree : ∀ p, free (wsAt uss i) (S.t i) S.hd p = true → ∃ j, j ≠ i ∧ j < uss.length ∧ S.d j = false ∧ 0 < S.t j ∧ wAt uss j (S.t j - 1) = p := by
    intro p hp
    unfold free at hp
    split at hp
    · rename_i hpos
      by_cases e : p = (wsAt uss i).getD (S.t i - 1) 0
      · rw [e, upd_self] at hp; cases hp
      · rw [upd_ne _ _ e] at hp
        obtain ⟨j, k1, k2, k3, k4⟩ := h3 p hp
        refine ⟨j, ?_, k1, k2, k3, k4⟩
        rintro rfl
        exact e k4.symm
    · rename_i hpos
      obtain ⟨j, k1, k2, k3, k4⟩ := h3 p hp
      exact ⟨j, (by rintro rfl; exact hpos k3), k1, k2, k3, k4⟩
  unfold turnW
  split
  · exact ⟨h1, h2, h3⟩
  rename_i hd
  split
  · rename_i ht
    refine ⟨h1, fun j hj => ?_, fun p hp => ?_⟩
    · by_cases e : j = i
      · subst e; exact ht
      · simp only [] at hj; rw [upd_ne _ _ e] at hj; exact h2 j hj
    · obtain ⟨j, k0, k1, k2, k3, k4⟩ := hfree p hp
      refine ⟨j, k1, ?_, k3, k4⟩
      simp only []
      rw [upd_ne _ _ k0]; exact k2
  rename_i ht
  split
  · exact ⟨h1, h2, h3⟩
  refine ⟨fun j => ?_, fun j hj => ?_, fun p hp => ?_⟩
  · simp only []
    by_cases e : j = i
    · subst e; rw [upd_self]; have := h1 j; omega
    · rw [upd_ne _ _ e]; exact h1 j
  · simp only [] at hj ⊢
    by_cases e : j = i
    · subst e; exact absurd hj hd
    · rw [upd_ne _ _ e]; exact h2 j hj
  · simp only [] at hp ⊢
    by_cases e : p = wAt uss i (S.t i)
    · refine ⟨i, hi, by simpa using hd, by rw [upd_self]; omega, by rw [upd_self, e]; rfl⟩
    · rw [upd_ne _ _ e] at hp
      obtain ⟨j, k0, k1, k2, k3, k4⟩ := hfree p hp
      exact ⟨j, k1, k2, by rw [upd_ne _ _ k0]; exact k3, by rw [upd_ne _ _ k0]; exact k4⟩
theorem turns_inv {uss : List (List Nat)} {S : WS} (h : InvW uss S) : ∀ {n : Nat}, n ≤ uss.length → InvW uss (turnsTo uss n S).1 ∧ (∀ i, muOne uss (turnsTo uss n S).1 i ≤ muOne uss S i) ∧ ((turnsTo uss n S).2 = true → ∃ i, i < n ∧ muOne uss (turnsTo uss n S).1 i < muOne uss S i) ∧
    ((turnsTo uss n S).2 = false → (turnsTo uss n S).1 = S ∧ ∀ i, i < n → S.d i = true ∨ (S.t i ≠ (wsAt uss i).length ∧ S.hd (wAt uss i (S.t i)) = true)) := by
  intro n
  induction n with
  | zero => exact fun _ => ⟨h, fun _ => Nat.le_refl _, (fun h => by cases h), fun _ => ⟨rfl, fun i hi => by omega⟩⟩
  | succ n ih =>
    intro hn
    obtain ⟨k1, k2, k3, k4⟩ := ih (by omega)
    have m := turn_mu uss n (turnsTo uss n S).1 (k1.1 n)
    refine ⟨inv_turn (by omega) k1, fun i => Nat.le_trans (m.1 i) (k2 i), fun hs => ?_, fun hs => ?_⟩
    · have hs' : (turnsTo uss n S).2 = true ∨ (turnW uss n (turnsTo uss n S).1).2 = true := by
        have : ((turnsTo uss n S).2 || (turnW uss n (turnsTo uss n S).1).2) = true := hs
        simpa using this
      rcases hs' with e | e
      · obtain ⟨i, hi, hlt⟩ := k3 e
        exact ⟨i, by omega, Nat.lt_of_le_of_lt (m.1 i) hlt⟩
      · have := m.2 e
        have := k2 n
        exact ⟨n, by omega, by show muOne uss (turnW uss n (turnsTo uss n S).1).1 n < _; omega⟩
    · have hs' : (turnsTo uss n S).2 = false ∧ (turnW uss n (turnsTo uss n S).1).2 = false := by
        have : ((turnsTo uss n S).2 || (turnW uss n (turnsTo uss n S).1).2) = false := hs
        simpa using this
      obtain ⟨e1, e2⟩ := k4 hs'.1
      have hsame : (turnW uss n S).1 = S ∧ (S.d n = true ∨ (S.t n ≠ (wsAt uss n).length ∧ S.hd (wAt uss n (S.t n)) = true)) := by
        have h5 := hs'.2
        rw [e1] at h5
        unfold turnW at h5 ⊢
        by_cases c1 : S.d n = true
        · rw [if_pos c1]; exact ⟨rfl, Or.inl c1⟩
        rw [if_neg c1] at h5 ⊢
        by_cases c2 : S.t n = (wsAt uss n).length
        · rw [if_pos c2] at h5; cases h5
        rw [if_neg c2] at h5 ⊢
        by_cases c3 : S.hd (wAt uss n (S.t n)) = true
        · rw [if_pos c3]; exact ⟨rfl, Or.inr ⟨c2, c3⟩⟩
        rw [if_neg c3] at h5; cases h5
      refine ⟨?_, fun i hi => ?_⟩
      · show (turnW uss n (turnsTo uss n S).1).1 = S
        rw [e1]; exact hsame.1
      · by_cases c : i = n
        · subst c; exact hsame.2
        · exact e2 i (by omega)
theorem step_inv {uss : List (List Nat)} {S : WS} (h : InvW uss S) : InvW uss (stepW uss S).1 ∧ ((stepW uss S).2 = true → mu uss (stepW uss S).1 < mu uss S) ∧
    ((stepW uss S).2 = false → (stepW uss S).1 = S ∧ ∀ i, i < uss.length → S.d i = true ∨ (S.t i ≠ (wsAt uss i).length ∧ S.hd (wAt uss i (S.t i)) = true)) := by
  obtain ⟨k1, k2, k3, k4⟩ := turns_inv h (n := uss.length) (Nat.le_refl _)
  refine ⟨k1, fun hs => ?_, k4⟩
  obtain ⟨i, hi, hlt⟩ := k3 hs
  exact muTo_lt hi (fun j _ => k2 j) hlt
theorem inv_at (uss : List (List Nat)) : ∀ k, InvW uss (stAt uss k)
  | 0 => inv_start uss
  | k + 1 => (step_inv (inv_at uss k)).1
theorem on_mu {uss : List (List Nat)} : ∀ {k : Nat}, OnW uss k → k + mu uss (stAt uss k) ≤ mu uss startW
  | 0, _ => by rw [Nat.zero_add]; exact Nat.le_refl _
  | k + 1, h => by
    have h1 := on_mu (k := k) (fun j hj => h j (by omega))
    have h2 := (step_inv (inv_at uss k)).2.1 (h k (by omega)).2
    show k + 1 + mu uss (stepW uss (stAt uss k)).1 ≤ _
    omega
theorem mu_start {uss : List (List Nat)} {m : Nat} (h : ∀ us ∈ uss, us.length ≤ m) : mu uss startW ≤ uss.length * (m + 1) := by
  have key : ∀ n, n ≤ uss.length → muTo uss startW n ≤ n * (m + 1) := by
    intro n
    induction n with
    | zero => intro _; rw [Nat.zero_mul]; exact Nat.le_refl _
    | succ n ih =>
      intro hn
      have h1 := ih (by omega)
      have h2 : (wsAt uss n).length ≤ m := by
        unfold wsAt
        rw [List.getD_eq_getElem?_getD, List.getElem?_eq_getElem (by omega)]
        exact h _ (List.getElem_mem _)
      have h3 : muOne uss startW n ≤ m + 1 := by unfold muOne startW; simp; omega
      show muTo uss startW n + muOne uss startW n ≤ _
      rw [Nat.succ_mul]
      omega
  exact key _ (Nat.le_refl _)
theorem on_le {uss : List (List Nat)} {k : Nat} (h : OnW uss k) (hl : uss.length ≤ 12) (hm : ∀ us ∈ uss, us.length ≤ 29) : k ≤ 360 := by
  have h1 := on_mu h
  have h2 := mu_start hm
  have h3 : uss.length * (29 + 1) ≤ 12 * (29 + 1) := Nat.mul_le_mul_right _ hl
  omega
theorem end_le {uss : List (List Nat)} {k : Nat} {s : Bool} (h : EndW uss k s) (hl : uss.length ≤ 12) (hm : ∀ us ∈ uss, us.length ≤ 29) : k ≤ 361 := by
  rcases h with ⟨_, h, _⟩ | ⟨_, j, rfl, h, _⟩
  · have := on_le h hl hm; omega
  · have := on_le h hl hm; omega
theorem on_succ {uss : List (List Nat)} {k : Nat} (h : OnW uss k) (hl : leftW uss (stAt uss k) = true) (hd : didW uss k = true) : OnW uss (k + 1) := fun j hj => by
  by_cases e : j = k
  · subst e; exact ⟨hl, hd⟩
  · exact h j (by omega)
/- Where waiting cannot go round nobody is stuck. -/
theorem left_iff {uss : List (List Nat)} {S : WS} : leftW uss S = true ↔ ∃ i, i < uss.length ∧ S.d i = false := by
  unfold leftW
  rw [List.any_eq_true]
  constructor
  · rintro ⟨i, h1, h2⟩
    exact ⟨i, List.mem_range.1 h1, by simpa using h2⟩
  · rintro ⟨i, h1, h2⟩
    exact ⟨i, List.mem_range.2 h1, by simp [h2]⟩
theorem stuck_round {uss : List (List Nat)} {k : Nat} (h : EndW uss k true) : Round (Waits uss) := by
  rcases h with ⟨h, _⟩ | ⟨_, j, rfl, h1, h2, h3⟩
  · cases h
  obtain ⟨e1, e2⟩ := (step_inv (inv_at uss j)).2.2 h3
  have hinv := inv_at uss j
  revert h2 e1 e2 hinv
  generalize stAt uss j = S
  intro h2 e1 e2 hinv
  obtain ⟨i0, hi0, hd0⟩ := left_iff.1 h2
  refine ⟨fun p => ∃ i, i < uss.length ∧ S.d i = false ∧ wAt uss i (S.t i) = p, ⟨_, i0, hi0, hd0, rfl⟩, ?_⟩
  rintro p ⟨i, hi, hd, rfl⟩
  rcases e2 i hi with h | ⟨ht, hh⟩
  · rw [hd] at h; cases h
  obtain ⟨j, k1, k2, k3, k4⟩ := hinv.2.2 _ hh
  rcases e2 j k1 with h | ⟨ht', _⟩
  · rw [k2] at h; cases h
  refine ⟨wAt uss j (S.t j), ⟨wsAt uss j, ?_, S.t j - 1, ?_, k4, ?_⟩, j, k1, k2, rfl⟩
  · unfold wsAt
    rw [List.getD_eq_getElem?_getD, List.getElem?_eq_getElem k1]
    exact List.getElem_mem _
  · have := hinv.1 j; omega
  · rw [show S.t j - 1 + 1 = S.t j by omega]; rfl
theorem done_all {uss : List (List Nat)} {k : Nat} {s : Bool} (h : EndW uss k s) : s = false ↔ ∀ i, i < uss.length → (stAt uss k).d i = true := by
  rcases h with ⟨rfl, h1, h2⟩ | ⟨rfl, j, rfl, h1, h2, h3⟩
  · refine ⟨fun _ i hi => ?_, fun _ => rfl⟩
    cases hd : (stAt uss k).d i with
    | true => rfl
    | false =>
      have := left_iff.2 ⟨i, hi, hd⟩
      rw [h2] at this; cases this
  · refine ⟨(fun h => by cases h), fun h => ?_⟩
    have e1 := ((step_inv (inv_at uss j)).2.2 h3).1
    obtain ⟨i, hi, hd⟩ := left_iff.1 h2
    have h5 := h i hi
    have e2 : stAt uss (j + 1) = stAt uss j := e1
    rw [e2, hd] at h5; cases h5
/- A worm alone. -/
theorem alone_mu (us : List Nat) (S : WS) (h : (stepW [us] S).2 = true) (hS : S.t 0 ≤ us.length) : mu [us] (stepW [us] S).1 + 1 = mu [us] S := by
  have m := (turn_mu [us] 0 S hS).2
  have h1 : (turnW [us] 0 S).2 = true := by simpa [stepW, turnsTo] using h
  have h2 := m h1
  have e : ∀ T, mu [us] T = muOne [us] T 0 := fun T => by simp [mu, muTo]
  rw [e, e]
  exact h2
theorem alone_steps {us : List Nat} : ∀ {k : Nat}, OnW [us] k → k + mu [us] (stAt [us] k) = us.length + 1
  | 0, _ => by simp [mu, muTo, muOne, stAt, startW, wsAt]
  | k + 1, h => by
    have h1 := alone_steps (k := k) (fun j hj => h j (by omega))
    have h2 := alone_mu us (stAt [us] k) (h k (by omega)).2 ((inv_at [us] k).1 0)
    show k + 1 + mu [us] (stepW [us] (stAt [us] k)).1 = _
    omega
theorem alone_end {us : List Nat} {k : Nat} (h : EndW [us] k false) : k = us.length + 1 := by
  have hd := (done_all h).1 rfl 0 (by simp)
  rcases h with ⟨_, h1, h2⟩ | ⟨h, _⟩
  · have h3 := alone_steps h1
    have h4 := (inv_at [us] k).2.1 0 hd
    have h5 : mu [us] (stAt [us] k) = 0 := by
      simp [mu, muTo, muOne, hd, h4]
    omega
  · cases h

/- Routes that go along and then down never wait in a round. -/
theorem routes_no_round {w h : Nat} (hw : 1 ≤ w ∧ w ≤ 5) (hh : 1 ≤ h ∧ h ≤ 5) {kss : List (List Int)} (hk : ∀ ks ∈ kss, ∃ a b, a < w * h ∧ b < w * h ∧ ks = xyL w a b) : ¬ Round (Waits (kss.map (wiresN w))) := by
  refine rise_no_round (rk w) 14 ?_
  rintro p q ⟨us, hu, k, hk1, rfl, rfl⟩
  obtain ⟨ks, h1, rfl⟩ := List.mem_map.1 hu
  obtain ⟨a, b, ha, hb, rfl⟩ := hk ks h1
  have hok := xyL_ok hw hh ha hb
  have hl := wiresN_len w (xyL w a b)
  have h2 := xyL_rise hw hh ha hb (k := k) (by omega)
  have e1 : (wiresN w (xyL w a b)).getD k 0 = (wireW w (nd (xyL w a b) k) (nd (xyL w a b) (k + 1))).toNat := wiresTo_at _ _ (by omega)
  have e2 : (wiresN w (xyL w a b)).getD (k + 1) 0 = (wireW w (nd (xyL w a b) (k + 1)) (nd (xyL w a b) (k + 2))).toNat := wiresTo_at _ _ (by omega)
  refine ⟨by rw [e1, e2]; exact h2, ?_⟩
  have h3 : (wiresN w (xyL w a b)).getD (k + 1) 0 ∈ wiresN w (xyL w a b) := by
    rw [List.getD_eq_getElem?_getD, List.getElem?_eq_getElem hk1]; exact List.getElem_mem _
  have h4 : (((wiresN w (xyL w a b)).getD (k + 1) 0 : Nat) : Int) < 4 * ((w : Int) * (h : Int)) := wires_lt hok _ h3
  generalize (wiresN w (xyL w a b)).getD (k + 1) 0 = u at *
  have h5 : u < 4 * (w * h) := by exact_mod_cast h4
  refine rk_le hw.2 (by omega) ?_
  have h6 : u / 4 < w * h := by omega
  have := Nat.div_lt_of_lt_mul h6
  omega
end Go.Proofs.YthcfjnedpffbbaaDoor
