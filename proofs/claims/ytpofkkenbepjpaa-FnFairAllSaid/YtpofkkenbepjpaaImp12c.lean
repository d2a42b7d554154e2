/-
  Lines of jobs: what is proved here is how lists of slices of rows of two are read, made, appended to. No condition.
-/
import Derived.Test.YtpofkkenbepjpaaImp12b
namespace Go.Proofs.Ytpofkkenbepjpaa
open Go.RowKit

/-- A list of slices of jobs that the call made. -/
def OwnVJ (w : World) (lo g n : Nat) (vs : List Value) (es : List (List Duo)) : Prop :=
  Own w lo 62 (some ⟨g, 0, none⟩) n n vs ∧ vs.length = es.length ∧
  (∀ (i : Nat) (v : Value) (zs : List Duo), vs[i]? = some v → es[i]? = some zs → ∃ B m d, v = .slice B m d ∧ OwnD w lo 86 B m d zs) ∧
  ∀ (i j : Nat) (vi vj : Value), i < j → vs[i]? = some vi → vs[j]? = some vj → ∀ b, vi.ownBlock = some b → vj.ownBlock ≠ some b
def OwnJ (w : World) (lo g n : Nat) (es : List (List Duo)) : Prop := ∃ vs, OwnVJ w lo g n vs es
/-- Such a list as it is read. -/
def HasJ (w : World) (A : Option Addr) (n : Nat) (es : List (List Duo)) : Prop :=
  es.length = n ∧ ∀ i, i < n → ∃ b o B m d zs, A = some ⟨b, o, none⟩ ∧ es[i]? = some zs ∧ w.cell? ⟨b, o + i, none⟩ = some (.slice B m d) ∧ HasD w B m zs
theorem ownD_block {w : World} {lo : Nat} {e : TypeId} {B : Option Addr} {m d b : Nat} {hs : List Duo} (h : OwnD w lo e B m d hs) (hb : (Value.slice B m d).ownBlock = some b) : lo ≤ b ∧ b < w.heap.size := World.ownsRow.lt h b hb
theorem ownD_type {w : World} {lo : Nat} {e : TypeId} {B : Option Addr} {m d b : Nat} {hs : List Duo} (h : OwnD w lo e B m d hs) (hb : (Value.slice B m d).ownBlock = some b) : ∃ cur fz, w.heap[b]? = some (.cells cur e fz) := by
  rcases h.2 with ⟨hv, _⟩ | ⟨g, cap, cur, hv, _, hg, _⟩
  · cases hv; cases hb
  · cases hv
    have : g = b := by simpa [Value.ownBlock] using hb
    subst this
    exact ⟨cur, _, hg⟩
theorem own_type {w : World} {lo : Nat} {e : TypeId} {g n c : Nat} {xs : List Value} (h : Own w lo e (some ⟨g, 0, none⟩) n c xs) : ∃ cur fz, w.heap[g]? = some (.cells cur e fz) := by
  rcases h.2 with ⟨hv, _⟩ | ⟨g', cap, cur, hv, _, hg, _⟩
  · cases hv
  · cases hv
    exact ⟨cur, _, hg⟩
section
variable {w w' : World} {lo g n : Nat} {vs : List Value} {es : List (List Duo)}
theorem OwnVJ.len (h : OwnVJ w lo g n vs es) : es.length = n := by have h1 := h.1.has.1; have h2 := h.2.1; omega
theorem OwnVJ.has (h : OwnVJ w lo g n vs es) : HasJ w (some ⟨g, 0, none⟩) n es := by
  refine ⟨h.len, fun i hi => ?_⟩
  obtain ⟨u, hu, hc, _⟩ := h.1.at_ hi
  obtain ⟨z, hz⟩ : ∃ z, es[i]? = some z := ⟨_, List.getElem?_eq_getElem (by rw [h.len]; exact hi)⟩
  obtain ⟨B, m, d, rfl, hO⟩ := h.2.2.1 i u _ hu hz
  exact ⟨g, 0, B, m, d, _, rfl, hz, by rw [Nat.zero_add]; exact hc, hO.has⟩
theorem OwnVJ.bel (h : OwnVJ w lo g n vs es) (hb : Below w.heap.size w w') : OwnVJ w' lo g n vs es :=
  ⟨h.1.bel hb, h.2.1, fun i v zs hv hz => by
    obtain ⟨B, m, d, rfl, hO⟩ := h.2.2.1 i v zs hv hz
    exact ⟨B, m, d, rfl, hO.bel hb⟩, h.2.2.2⟩
theorem HasJ.bel {A : Option Addr} (h : HasJ w A n es) (hb : Below w.heap.size w w') : HasJ w' A n es := by
  refine ⟨h.1, fun i hi => ?_⟩
  obtain ⟨b, o, B, m, d, zs, hA, hz, hc, hK⟩ := h.2 i hi
  exact ⟨b, o, B, m, d, zs, hA, hz, (hb.cell (p := ⟨b, o + i, none⟩) (World.block_lt_of_cell? w _ hc)).trans hc, hK.bel hb⟩
theorem HasJ.len {A : Option Addr} (h : HasJ w A n es) : es.length = n := h.1
/-- A list of nothing but nil slices. -/
theorem ownVJ_made (h : Own w lo 62 (some ⟨g, 0, none⟩) n n (List.replicate n (.slice none 0 0))) : OwnVJ w lo g n (List.replicate n (.slice none 0 0)) (List.replicate n []) := by
  refine ⟨h, by simp, fun i v zs hv hz => ?_, fun i j vi vj _ hi _ b hb => ?_⟩
  · have h1 := List.mem_of_getElem? hv
    have h2 := List.mem_of_getElem? hz
    rw [List.mem_replicate] at h1 h2
    rw [h1.2, h2.2]
    exact ⟨none, 0, 0, rfl, World.ownsRow_nil _ _ _ _⟩
  · have h1 := List.mem_of_getElem? hi
    rw [List.mem_replicate] at h1
    rw [h1.2] at hb; cases hb
/-- One end more in one of the slices. -/
theorem OwnVJ.push {a m d g2 d2 : Nat} {B : Option Addr} {zs : List Duo} {x : Duo} (h : OwnVJ w lo g n vs es) (hv : vs[a]? = some (.slice B m d)) (hz : es[a]? = some zs)
    (h2 : OwnD w' lo 86 (some ⟨g2, 0, none⟩) (m + 1) d2 (zs ++ [x])) (hg : w.grownBy w' (B.map (·.block))) (hat : B.map (·.block) = some g2 ∨ w.heap.size ≤ g2) :
    OwnVJ (w'.setCell ⟨g, a, none⟩ (.slice (some ⟨g2, 0, none⟩) (m + 1) d2)) lo g n (vs.set a (.slice (some ⟨g2, 0, none⟩) (m + 1) d2)) (es.set a (zs ++ [x])) ∧ Own w' lo 62 (some ⟨g, 0, none⟩) n n vs := by
  have hl := h.2.1
  have hal := (List.getElem?_eq_some_iff.1 hv).1
  have hvl : vs.length = n := h.1.has.1
  obtain ⟨_, _, _, hB, hOB⟩ := h.2.2.1 a _ zs hv hz
  injection hB with q1 q2 q3
  subst q1 q2 q3
  -- the list's own block is none of the slices'
  have hgne : ∀ (i : Nat) (v : Value) (b : Nat), vs[i]? = some v → v.ownBlock = some b → b ≠ g := fun i v b hi hb e => by
    subst e
    obtain ⟨zi, hzi⟩ : ∃ z, es[i]? = some z := ⟨_, List.getElem?_eq_getElem (by rw [← hl]; exact (List.getElem?_eq_some_iff.1 hi).1)⟩
    obtain ⟨B', m', d', rfl, hO⟩ := h.2.2.1 i v _ hi hzi
    obtain ⟨c1, f1, e1⟩ := ownD_type hO hb
    obtain ⟨c2, f2, e2⟩ := own_type h.1
    rw [e1] at e2
    injection e2 with e2
    injection e2 with _ e2
    exact absurd e2 (by decide)
  have hBne : B.map (·.block) ≠ some g := fun e => hgne a _ g hv (by cases B <;> simp_all [Value.ownBlock]) rfl
  have hO1 : Own w' lo 62 (some ⟨g, 0, none⟩) n n vs := h.1.grown hg (fun ad ha e => by cases ha; exact hBne e.symm)
  have hgl : g < w.heap.size := h.1.block.2
  have hg2 : g2 ≠ g := by
    rcases hat with e | e
    · intro e2; rw [e2] at e; exact hBne e
    · omega
  have hgr : w'.grownBy (w'.setCell ⟨g, a, none⟩ (.slice (some ⟨g2, 0, none⟩) (m + 1) d2)) (some g) := grown_set (World.grownBy.refl w' (some g)) a _
  have keep : ∀ {B' : Option Addr} {m' d' : Nat} {hs : List Duo}, OwnD w' lo 86 B' m' d' hs → (∀ b, (Value.slice B' m' d').ownBlock = some b → b ≠ g) → OwnD (w'.setCell ⟨g, a, none⟩ (.slice (some ⟨g2, 0, none⟩) (m + 1) d2)) lo 86 B' m' d' hs := fun hO hne =>
    World.ownsRow.kept hO hgr (by
      cases hb : (Value.slice _ _ _).ownBlock with
      | none => exact .inl rfl
      | some b => exact .inr (fun e => hne b hb (by injection e)))
  have other : ∀ (i : Nat) (v : Value) (b : Nat), i ≠ a → vs[i]? = some v → v.ownBlock = some b → b ≠ g2 := fun i v b hia hi hb e => by
    subst e
    rcases hat with e | e
    · rcases Nat.lt_or_ge i a with hlt | hge
      · exact h.2.2.2 i a _ _ hlt hi hv b hb (by cases B <;> simp_all [Value.ownBlock])
      · exact h.2.2.2 a i _ _ (by omega) hv hi b (by cases B <;> simp_all [Value.ownBlock]) hb
    · obtain ⟨zi, hzi⟩ : ∃ z, es[i]? = some z := ⟨_, List.getElem?_eq_getElem (by rw [← hl]; exact (List.getElem?_eq_some_iff.1 hi).1)⟩
      obtain ⟨B', m', d', rfl, hO⟩ := h.2.2.1 i v _ hi hzi
      have := ownD_block hO hb
      omega
  refine ⟨⟨hO1.set_ a _, by simp [hl], fun i v zs' hvi hzi => ?_, fun i j vi vj hij hvi hvj b hbi hbj => ?_⟩, hO1⟩
  · by_cases hia : i = a
    · subst hia
      rw [List.getElem?_set_self hal] at hvi
      rw [List.getElem?_set_self (by rw [← hl]; exact hal)] at hzi
      injection hvi with hvi
      injection hzi with hzi
      subst hvi hzi
      refine ⟨_, _, _, rfl, keep h2 (fun b hb e => ?_)⟩
      have : g2 = b := by simpa [Value.ownBlock] using hb
      omega
    · rw [List.getElem?_set_ne (Ne.symm hia)] at hvi hzi
      obtain ⟨B', m', d', rfl, hO⟩ := h.2.2.1 i v zs' hvi hzi
      refine ⟨_, _, _, rfl, keep (World.ownsRow.kept hO hg ?_) (fun b hb => hgne i _ b hvi hb)⟩
      cases hb : (Value.slice B' m' d').ownBlock with
      | none => exact .inl rfl
      | some b =>
        refine .inr (fun e => ?_)
        rcases Nat.lt_or_ge i a with hlt | hge
        · exact h.2.2.2 i a _ _ hlt hvi hv b hb (by cases B <;> simp_all [Value.ownBlock])
        · exact h.2.2.2 a i _ _ (by omega) hv hvi b (by cases B <;> simp_all [Value.ownBlock]) hb
  · by_cases hia : i = a
    · subst hia
      rw [List.getElem?_set_self hal] at hvi
      injection hvi with hvi
      subst hvi
      rw [List.getElem?_set_ne (by omega)] at hvj
      have : g2 = b := by simpa [Value.ownBlock] using hbi
      exact other j vj b (by omega) hvj hbj this.symm
    · rw [List.getElem?_set_ne (Ne.symm hia)] at hvi
      by_cases hja : j = a
      · subst hja
        rw [List.getElem?_set_self hal] at hvj
        injection hvj with hvj
        subst hvj
        have : g2 = b := by simpa [Value.ownBlock] using hbj
        exact other i vi b hia hvi hbi this.symm
      · rw [List.getElem?_set_ne (Ne.symm hja)] at hvj
        exact h.2.2.2 i j vi vj hij hvi hvj b hbi hbj
end

theorem Try.infoLineJob : (Try.prog.info? 86).map (fun i => (i.zero, i.size, i.bytes)) = some (some (.agg #[.int .i64 0, .int .i64 0]), 2, 16) := by kernel_rfl
theorem Try.infoJobLine : (Try.prog.info? 62).map (fun i => (i.zero, i.size, i.bytes)) = some (some (.slice none 0 0), 1, 24) := by kernel_rfl
theorem Try.underlyingJobLine : Try.prog.underlying 62 = some (.slice 86) := by kernel_rfl

set_option maxHeartbeats 2000000 in
theorem put_any {w : World} {lo G i m d : Nat} {B : Option Addr} {x y : Int} {zs : List Duo} (hc : w.cell? ⟨G, i, none⟩ = some (.slice B m d)) (hf : w.frozen? ⟨G, i, none⟩ = false) (h : OwnD w lo 86 B m d zs) (hne : B.map (·.block) ≠ some G) (hl : lo ≤ w.heap.size) (hm : m ≤ 1000000) :
    Calls Try.prog 64 #[.pointer (some ⟨G, i, none⟩), .agg #[.int .i64 x, .int .i64 y]] w fun e w' => e = .returned (.tuple #[]) ∧ ∃ w6 g d2, w' = w6.setCell ⟨G, i, none⟩ (.slice (some ⟨g, 0, none⟩) (m + 1) d2) ∧ OwnD w6 lo 86 (some ⟨g, 0, none⟩) (m + 1) d2 (zs ++ [(x, y)]) ∧ w.grownBy w6 (B.map (·.block)) ∧ (B.map (·.block) = some g ∨ w.heap.size ≤ g) := by
  obtain ⟨i0, hi, hz0, hz1, hz2⟩ := info_partsD Try.infoLineJob
  have hGl : G < w.heap.size := World.block_lt_of_cell? w ⟨G, i, none⟩ hc
  obtain ⟨W1, hW1⟩ : ∃ W1, w.alloc (.cells #[.int .i64 x, .int .i64 y] 86) = W1 := ⟨_, rfl⟩
  have B1 : Below w.heap.size w W1 := by rw [← hW1]; exact below_allocJ w _
  have s1 := Lib.hid (show W1.heap.size = w.heap.size + 1 by rw [← hW1]; simp)
  have hB1 : W1.heap[w.heap.size]? = some (.cells #[.int .i64 x, .int .i64 y] 86 (0, 0)) := by rw [← hW1]; exact heap_alloc_new w _
  obtain ⟨x0, x1⟩ := cells2D hB1
  have xl : w.heap.size < W1.heap.size := by have := s1.out; omega
  have c1 := (B1.cell (p := ⟨G, i, none⟩) hGl).trans hc
  have f1 : W1.frozen? ⟨G, i, none⟩ = false := (B1.frozen (p := ⟨G, i, none⟩) hGl).trans hf
  have gl : G < W1.heap.size := by have := s1.out; omega
  have O1 := h.bel B1
  have O5 : ((W1.alloc (.cells #[Value.int .i64 x, Value.int .i64 y] 86)).drew).ownsRow lo 86 2 (.slice B m d) m (flatD zs) := World.ownsRow.drew (World.ownsRow.alloc O1 _)
  have N5 := Lib.hid (World.news_of_block (w := (W1.alloc (.cells #[Value.int .i64 x, Value.int .i64 y] 86)).drew) (B := W1.heap.size) (cs := #[Value.int .i64 x, Value.int .i64 y]) (t := 86) (fr := (0, 0)) (heap_alloc_new W1 _))
  have Z5 : lo ≤ ((W1.alloc (.cells #[Value.int .i64 x, Value.int .i64 y] 86)).drew).heap.size := by have := s1.out; simp; omega
  have HNE := Lib.hid hne
  have BD : Below w.heap.size w ((W1.alloc (.cells #[Value.int .i64 x, Value.int .i64 y] 86)).drew) := (B1.alloc B1.size _).drew
  have hA : (Value.slice B m d).ownBlock = B.map (·.block) := by cases B <;> rfl
  have key : ∀ (w6 : World), ((W1.alloc (.cells #[Value.int .i64 x, Value.int .i64 y] 86)).drew).grownBy w6 ((Value.slice B m d).ownBlock) → w.grownBy w6 (B.map (·.block)) ∧ w6.cell? ⟨G, i, none⟩ = some (.slice B m d) ∧ w6.frozen? ⟨G, i, none⟩ = false := by
    intro w6 G6
    rw [hA] at G6
    refine ⟨⟨G6.os.trans BD.os, G6.tape.trans BD.tape, G6.output.trans BD.output, Nat.le_trans BD.size G6.size, fun k hk hkn => (G6.block k (by have := BD.size; omega) hkn).trans (BD.block k hk)⟩, ?_⟩
    have e : w6.heap[(⟨G, i, none⟩ : Addr).block]? = w.heap[(⟨G, i, none⟩ : Addr).block]? := (G6.block G (by have := BD.size; omega) (fun e => HNE.out e.symm)).trans (BD.block G hGl)
    exact ⟨(World.cell?_of_block e).trans hc, (World.frozen?_of_block e).trans hf⟩
  have HKEY := Lib.hid key
  clear key hne hc hf O1 B1 hB1
  go_enter Try.func64, Try.ntmps64
  go_wp2
  (try rw [hW1])
  clear hW1
  go_region_law ((with_reducible refine step_append_lies _ rfl (.tmp 7) (.tmp 9) 62 rfl lo 86 i0 (.agg #[.int .i64 0, .int .i64 0]) 2 16 Try.underlyingJobLine hi hz0 hz1 hz2 ?c1 ?c2 (.slice B m d) m (flatD zs) rfl O5 ⟨W1.heap.size, 0, none⟩ 1 1 (#[Value.int .i64 x, Value.int .i64 y] : Array Value).toList rfl ?c3 N5.out ?c4 ?c5 ?c6 ?c7 Z5 _ rfl ?_); (case c1 => rfl); (case c2 => decide); (case c3 => rfl); (case c4 => simp [Value.oneCell']); (case c5 => decide); (case c6 => unfold maxLen; omega); (case c7 => omega); intro g cap w6 O6 G6 E6 _; obtain ⟨K1, q1, q2⟩ := HKEY.out w6 G6)
  all_goals
    go_wp2
    refine bodyPost_end (results_none rfl _ _ _) rfl ?_
    refine ⟨rfl, w6, g, cap, rfl, ?_, K1, ?_⟩
    · unfold OwnD; rw [flatD_app]; exact O6
    · rw [hA] at E6
      rcases E6 with E6 | E6
      · exact .inl (by simpa using E6)
      · exact .inr (by have := s1.out; rw [E6]; simp; omega)

/-- The list's own block is none of the lines'. -/
theorem OwnVJ.apart {w : World} {lo g n : Nat} {vs : List Value} {es : List (List Duo)} {a m d : Nat} {B : Option Addr} (h : OwnVJ w lo g n vs es) (hv : vs[a]? = some (.slice B m d)) : B.map (·.block) ≠ some g := by
  intro e
  have hal := (List.getElem?_eq_some_iff.1 hv).1
  obtain ⟨z, hz⟩ : ∃ z, es[a]? = some z := ⟨_, List.getElem?_eq_getElem (by rw [← h.2.1]; exact hal)⟩
  obtain ⟨B', m', d', hB, hO⟩ := h.2.2.1 a _ z hv hz
  injection hB with q1 q2 q3
  subst q1 q2 q3
  have hb : (Value.slice B m d).ownBlock = some g := by cases B <;> simp_all [Value.ownBlock]
  obtain ⟨c1, f1, e1⟩ := ownD_type hO hb
  obtain ⟨c2, f2, e2⟩ := own_type h.1
  rw [e1] at e2
  injection e2 with e2
  injection e2 with _ e2
  exact absurd e2 (by decide)
theorem OwnVJ.grown {w w' : World} {lo g n : Nat} {vs : List Value} {es : List (List Duo)} (h : OwnVJ w lo g n vs es) (hb : Below w.heap.size w w') : OwnVJ w' lo g n vs es := h.bel hb

set_option maxRecDepth 100000 in
set_option maxHeartbeats 8000000 in
theorem linesOf_any {B : Option Addr} {n m d : Nat} {ws : List Int} {js : List Duo} {w : World} (hj : HasD w B m js) (hn : ws.length = n) (hok : jobsOk ws js) :
    Calls Try.prog 45 #[.int .i64 (n : Int), .slice B m d] w fun e w' => ∃ g vs, e = .returned (.slice (some ⟨g, 0, none⟩) n n) ∧ OwnVJ w' w.heap.size g n vs (linesTo js n m) ∧ Below w.heap.size w w' := by
  obtain ⟨i0, hi, hz0, hz1, hz2⟩ := info_partsD Try.infoJobLine
  have HJ := Lib.hid hj.1
  have HL := Lib.hid hn
  have HK := Lib.hid hok
  have hm60 : m ≤ 60 := by have := hok.2.2; have := HJ.out; omega
  have hn4 : n ≤ 4 := by have := hok.2.1.2.2; omega
  clear hok hn
  go_enter Try.func45, Try.ntmps45
  go_wp2_with (at_make; refine wpList_make_full _ rfl _ _ 59 rfl w.heap.size 62 i0 (.slice none 0 0) 1 Try.underlying59 hi hz0 hz1 .i64 .i64 _ _ n rfl rfl (by omega) (by omega) (by rw [hz2]; omega) (by unfold maxLen; omega) (Nat.le_refl _) ?_; intro w1 hown hgrow)
  rw [Nat.mul_one, show Value.cells (.slice none 0 0) = #[.slice none 0 0] from rfl, toList_madeCells_one] at hown
  have O1 := ownVJ_made (lo := w.heap.size) hown
  have B1 : Below w.heap.size w w1 := below_of_grown hgrow (Nat.le_refl _) (fun k hk => by cases hk)
  rw [← linesTo_zero js n] at O1
  clear hown hgrow
  go_loopw [12] (fun t wr => ∃ (k : Nat) (vs : List Value), k ≤ m ∧ t = .int .i64 (k : Int) ∧ OwnVJ wr w.heap.size w.heap.size n vs (linesTo js n k) ∧ Below w.heap.size w wr) (fun t _ => m - (intOf t).toNat)
  case atStart => exact ⟨0, _, Nat.zero_le _, rfl, O1, B1⟩
  case round =>
    clear O1 B1
    obtain ⟨k, vs, hk, rfl, O, BK⟩ := hrel
    have hge := BK.size
    by_cases hlt : k < m
    rotate_left
    · have hltB : decide ((k : Int) < (m : Int)) = false := by simp; omega
      obtain rfl : k = m := by omega
      go_wp2
      go_ret
      exact ⟨_, _, rfl, O, BK⟩
    have hltB : decide ((k : Int) < (m : Int)) = true := by simp; omega
    obtain ⟨b2, o2, rfl, hbl2, e0, e1⟩ := (hj.bel BK).row hlt
    have HD := Lib.hid (dj_ok HK.out (show k < js.length by rw [HJ.out]; exact hlt))
    obtain ⟨cl, hcl⟩ := Int.eq_ofNat_of_zero_le HD.out.1
    have hcn : cl < n := by have h1 := HD.out.2.1; have := HL.out; omega
    obtain ⟨W3, hW3⟩ : ∃ W3, wr.alloc (.cells #[.int .i64 (dj js k).1, .int .i64 (dj js k).2] 31) = W3 := ⟨_, rfl⟩
    have HJ0 : W3.heap[wr.heap.size]? = some (.cells #[.int .i64 (dj js k).1, .int .i64 (dj js k).2] 31 (0, 0)) := by rw [← hW3]; exact heap_alloc_new wr _
    obtain ⟨v0, v1⟩ := cells2D HJ0
    have B3 : Below wr.heap.size wr W3 := by rw [← hW3]; exact below_allocJ wr _
    have O3 := O.bel B3
    have hvl : vs.length = n := O.1.has.1
    obtain ⟨u, hu⟩ : ∃ u, vs[cl]? = some u := ⟨_, List.getElem?_eq_getElem (by omega)⟩
    obtain ⟨X, q, cX, rfl, hX⟩ := O3.2.2.1 cl u _ hu (linesTo_at js n k cl hcn)
    have hq : q ≤ 60 := by
      have h1 := hX.len
      have h2 : (lineTo js cl k).length = (idxs js cl k).length := by unfold lineTo; simp
      have h3 := idxs_len js cl k
      omega
    obtain ⟨u', hu', x0, x1⟩ := O3.1.at_ hcn
    rw [hu] at hu'
    injection hu' with hu'
    subst hu'
    have D3 : Below W3.heap.size W3 W3.drew := (Below.refl _ _).drew
    have O4 := O3.bel D3
    have hX4 := hX.bel D3
    have hg3 : w.heap.size < W3.heap.size := O3.1.block.2
    have y0 := (D3.cell (p := ⟨w.heap.size, cl, none⟩) hg3).trans x0
    have y1 : W3.drew.frozen? ⟨w.heap.size, cl, none⟩ = false := (D3.frozen (p := ⟨w.heap.size, cl, none⟩) hg3).trans x1
    have CP := Lib.hid (put_any (x := (k : Int)) (y := (dj js k).2) y0 y1 hX4 (O4.apart hu) (by show w.heap.size ≤ W3.heap.size; omega) (by omega))
    have HN := Lib.hid (linesTo_succ js n k cl hcn hcl)
    have cl0 : (0 : Int) ≤ (cl : Int) := by omega
    have cl1 : (cl : Int) < (n : Int) := by omega
    have BW : Below w.heap.size w W3.drew := (BK.trans (B3.mono hge)).drew
    rw [show duoOf js k = ((k : Int), (dj js k).2) from rfl] at HN
    generalize (dj js k).1 = f at *
    subst hcl
    generalize (dj js k).2 = t at *
    clear HJ0 O O3 hX D3
    go_wp2
    (try rw [hW3])
    clear hW3
    go_region_with (go_at_call 64; refine CP.out.mono ?_; rintro e w5 ⟨rfl, w6, g2, d2, rfl, h2, hg, hat⟩; obtain ⟨OP, _⟩ := O4.push hu (linesTo_at js n k cl hcn) h2 hg hat; rw [← HN.out] at OP; have B6 : Below w.heap.size w (w6.setCell ⟨w.heap.size, cl, none⟩ (.slice (some ⟨g2, 0, none⟩) (q + 1) d2)) := (BW.grown hg (by show w.heap.size ≤ W3.heap.size; omega) (fun b hb => (ownD_block hX4 (by cases X <;> simp_all [Value.ownBlock])).1)).setCell (p := ⟨w.heap.size, cl, none⟩) (Nat.le_refl _) _)
    all_goals
      go_wp2
      go_roundw
      case rel => exact ⟨k + 1, _, by omega, by go_num, OP, B6⟩
      case measure => simp [intOf]; omega
end Go.Proofs.Ytpofkkenbepjpaa
