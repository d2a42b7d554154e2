/-
  Chapter 9's program, a slot: what is proved here is what the program's slot leaves in memory, and that nothing that was there before the run is written. Condition: at most 6 stations, at most 2000 slots.
-/
import Derived.Test.YtpciaokafokfmaaImp9d
namespace Go.Proofs.Ytpciaokafokfmaa
open Go.RowKit

theorem slotF_snoc (hit : Bool) : ∀ (ts : List Tk) (j i : Nat) (ds : List Int) (x : Tk), ts[i]? = some x →
    slotF hit j (ts.take (i + 1)) ds = (let s := slotF hit j (ts.take i) ds
      if sendsT x then (if hit then (s.1 ++ [(x.1, x.2.1 + 1, waitP (x.2.1 + 1) (drawOf s.2.1 (j + i)))], s.2.1.tail, s.2.2) else (s.1 ++ [(x.1 - 1, 0, 0)], s.2.1, s.2.2 ++ [((j + i : Nat) : Int)]))
      else (s.1 ++ [(x.1, x.2.1, max (x.2.2 - 1) 0)], s.2.1, s.2.2))
  | [], _, _, _, _, h => by simp at h
  | y :: r, j, 0, ds, x, h => by
    simp at h; subst h
    simp only [List.take_succ_cons, List.take_zero, slotF, Nat.add_zero]
    cases sendsT y <;> cases hit <;> simp
  | y :: r, j, i + 1, ds, x, h => by
    have ih := fun ds => slotF_snoc hit r (j + 1) i ds x (by simpa using h)
    rw [List.take_succ_cons, List.take_succ_cons, slotF, slotF]
    simp only [ih, show j + 1 + i = j + (i + 1) by omega]
    cases sendsT y <;> cases hit <;> cases sendsT x <;> simp
theorem mask_bit (f : Nat → Bool) : ∀ (n k : Nat), k < n → maskTo f n / 2 ^ k % 2 = if f k then 1 else 0
  | 0, _, h => absurd h (Nat.not_lt_zero _)
  | n + 1, k, h => by
    by_cases hk : k = n
    · subst hk
      have h1 := maskTo_lt f k
      rw [maskTo]
      by_cases hf : f k = true
      · rw [if_pos hf, if_pos hf, Nat.add_div_right _ (Nat.pow_pos (by omega)), Nat.div_eq_of_lt h1]
      · rw [if_neg hf, if_neg hf, Nat.add_zero, Nat.div_eq_of_lt h1]
    · have ih := mask_bit f n k (by omega)
      rw [maskTo, ← ih]
      by_cases hf : f n = true
      · rw [if_pos hf]
        obtain ⟨d, rfl⟩ : ∃ d, n = k + 1 + d := ⟨n - (k + 1), by omega⟩
        rw [show 2 ^ (k + 1 + d) = 2 ^ k * (2 * 2 ^ d) by rw [Nat.pow_add, Nat.pow_succ, Nat.mul_assoc], Nat.add_mul_div_left _ _ (Nat.pow_pos (by omega))]
        omega
      · rw [if_neg hf, Nat.add_zero]
theorem and_mask9 {f : Nat → Bool} {n k : Nat} (hn : n ≤ 6) (hk : k < n) : bits .and .u64 (maskTo f n : Int) (IntKind.u64.wrap (2 ^ k)) = if f k then ((2 ^ k : Nat) : Int) else 0 := by
  have key : ∀ k : Fin 6, ∀ M : Fin 64, bits .and .u64 (M.val : Int) (IntKind.u64.wrap (2 ^ k.val)) = ((M.val / 2 ^ k.val % 2 * 2 ^ k.val : Nat) : Int) := by decide +kernel
  have h1 := key ⟨k, by omega⟩ ⟨maskTo f n, maskTo_64 f hn⟩
  rw [show ((⟨maskTo f n, maskTo_64 f hn⟩ : Fin 64).val) = maskTo f n from rfl, show ((⟨k, by omega⟩ : Fin 6).val) = k from rfl, mask_bit f n k hk] at h1
  rw [h1]
  split <;> simp
theorem ones_mask (f : Nat → Bool) : ∀ n, n ≤ 6 → ones6 (maskTo f n) = ((List.range n).filter f).length := by
  intro n hn
  have h7 : n = 0 ∨ n = 1 ∨ n = 2 ∨ n = 3 ∨ n = 4 ∨ n = 5 ∨ n = 6 := by omega
  rcases h7 with rfl | rfl | rfl | rfl | rfl | rfl | rfl <;>
    simp only [maskTo, List.range_succ, List.range_zero, List.filter_append, List.filter_cons, List.filter_nil, List.nil_append, List.length_append] <;>
    cases f 0 <;> (try cases f 1) <;> (try cases f 2) <;> (try cases f 3) <;> (try cases f 4) <;> (try cases f 5) <;> rfl
theorem senders_filter : ∀ (ts : List Tk) (i : Nat), (sendersF i ts).length = ((List.range ts.length).filter (sb ts)).length
  | [], _ => rfl
  | x :: r, i => by
    have ih := senders_filter r (i + 1)
    rw [sendersF, List.length_cons, List.range_succ_eq_map, List.filter_cons]
    have h0 : sb (x :: r) 0 = sendsT x := rfl
    have h1 : ((List.map Nat.succ (List.range r.length)).filter (sb (x :: r))).length = ((List.range r.length).filter (sb r)).length := by
      rw [List.filter_map, List.length_map]; rfl
    rw [h0]
    cases sendsT x <;> simp [ih, h1]
theorem hit_mask {ts : List Tk} (h : ts.length ≤ 6) : decide ((ones6 (maskTo (sb ts) ts.length) : Int) > 1) = hitS ts := by
  unfold hitS
  rw [ones_mask _ _ h, senders_filter ts 0]
  apply decide_eq_decide.2
  omega

/-- What lies in memory of the program's stations. -/
structure IW (w : World) (lo r g n : Nat) (O : Option Addr) (co : Nat) (D : Option Addr) (cd : Nat) (ts : List Tk) (ds os : List Int) (h s : Nat) : Prop where
  row : IRow w r (.slice (some ⟨g, 0, none⟩) n n) (.slice D ds.length cd) (.slice O os.length co) (h : Int) (s : Int) false
  t : OwnK w lo 70 (some ⟨g, 0, none⟩) n n ts
  o : Own w lo 3 O os.length co (ints .i64 os)
  m : Has w D ds.length (ints .i64 ds)
  mlo : ∀ x, D = some x → x.block < lo
  mc : ds.length ≤ cd
  ge : lo ≤ r
section
variable {w w' : World} {lo r g n co cd h s : Nat} {O D : Option Addr} {ts : List Tk} {ds os : List Int}
theorem IW.bel (k : IW w lo r g n O co D cd ts ds os h s) (hb : Below w.heap.size w w') : IW w' lo r g n O co D cd ts ds os h s :=
  ⟨(hb.block r k.row.lt).trans k.row, k.t.bel hb, k.o.bel hb, k.m.bel hb, k.mlo, k.mc, k.ge⟩
theorem IW.gr (k : IW w lo r g n O co D cd ts ds os h s) : g ≠ r := ownK_not9 k.t k.row (by decide)
theorem own_notK {xs : List Value} {c : Nat} (k : Own w lo 3 O n c xs) (t : OwnK w lo 70 (some ⟨g, 0, none⟩) co cd ts) : O.map (·.block) ≠ some g := by
  rcases t.2 with ⟨hv, _⟩ | ⟨g', cap, cur, hv, _, hgb, _⟩
  · cases hv
  · injection hv with hA _ _
    injection hA with hA
    injection hA with hA
    subst hA
    exact own_not9 k hgb (by decide)
def put3 (w : World) (g i : Nat) (x : Tk) : World := ((w.setCell ⟨g, i * 3, none⟩ (.int .i64 x.1)).setCell ⟨g, i * 3 + 1, none⟩ (.int .i64 x.2.1)).setCell ⟨g, i * 3 + 2, none⟩ (.int .i64 x.2.2)
theorem IW.put (k : IW w lo r g n O co D cd ts ds os h s) (i : Nat) (x : Tk) : IW (put3 w g i x) lo r g n O co D cd (ts.set i x) ds os h s ∧ w.grownBy (put3 w g i x) (some g) := by
  obtain ⟨o1, G⟩ := k.t.put i x
  have hl := k.t.lt9.1
  refine ⟨⟨k.row.grown G (by simp; exact k.gr), o1, k.o.grown G (fun a ha e => own_notK k.o k.t (by rw [ha]; exact e)), k.m.grown G (fun a ha e => ?_), k.mlo, k.mc, k.ge⟩, G⟩
  injection e with e; have := k.mlo a ha; omega
theorem IW.cell (k : IW w lo r g n O co D cd ts ds os h s) (i : Nat) (v : Value) {O' D' : Option Addr} {co' cd' : Nat} {os' ds' : List Int} {h' s' : Nat}
    (hrow : IRow (w.setCell ⟨r, i, none⟩ v) r (.slice (some ⟨g, 0, none⟩) n n) (.slice D' ds'.length cd') (.slice O' os'.length co') (h' : Int) (s' : Int) false)
    (ho : Own w lo 3 O' os'.length co' (ints .i64 os')) (hm : Has w D' ds'.length (ints .i64 ds')) (hml : ∀ x, D' = some x → x.block < lo) (hmc : ds'.length ≤ cd') : IW (w.setCell ⟨r, i, none⟩ v) lo r g n O' co' D' cd' ts ds' os' h' s' :=
  ⟨hrow, k.t.grown9 (one_grown9 w r i v) (fun e => k.gr (by injection e with e; exact e.symm)), own_set ho k.row (by decide) i v, hm.grown (one_grown9 w r i v) (fun x hx e => by injection e with e; have := hml x hx; have := k.ge; omega), hml, hmc, k.ge⟩
theorem IW.hits (k : IW w lo r g n O co D cd ts ds os h s) (x : Nat) : IW (w.setCell ⟨r, 3, none⟩ (.int .i64 (x : Int))) lo r g n O co D cd ts ds os x s := k.cell 3 _ (k.row.hits _) k.o k.m k.mlo k.mc
theorem IW.slots (k : IW w lo r g n O co D cd ts ds os h s) (x : Nat) : IW (w.setCell ⟨r, 4, none⟩ (.int .i64 (x : Int))) lo r g n O co D cd ts ds os h x := k.cell 4 _ (k.row.slots _) k.o k.m k.mlo k.mc
/-- The order in another block, as append leaves it. -/
theorem IW.order (k : IW w lo r g n O co D cd ts ds os h s) {q c : Nat} {x : Int} (hg : w.grownBy w' (O.map (·.block))) (ho : Own w' lo 3 (some ⟨q, 0, none⟩) (os.length + 1) c (ints .i64 os ++ [.int .i64 x])) :
    IW (w'.setCell ⟨r, 2, none⟩ (.slice (some ⟨q, 0, none⟩) (os.length + 1) c)) lo r g n (some ⟨q, 0, none⟩) c D cd ts ds (os ++ [x]) h s := by
  have hr : O.map (·.block) ≠ some r := own_not9 k.o k.row (by decide)
  have row' := k.row.grown hg hr
  have ht := k.t.grown9 hg (own_notK k.o k.t)
  have hm := k.m.grown hg (fun z hz e => by
    cases O with
    | none => cases e
    | some y => have e2 : z.block = y.block := (by injection e); have h1 := k.mlo z hz; have h2 := k.o.block.1; omega)
  have ho' : Own w' lo 3 (some ⟨q, 0, none⟩) (os ++ [x]).length c (ints .i64 (os ++ [x])) := by rw [ints_app, List.length_append]; exact ho
  have e1 : os.length + 1 = (os ++ [x]).length := by simp
  have row2 := row'.order (.slice (some ⟨q, 0, none⟩) (os.length + 1) c)
  rw [e1] at row2 ⊢
  have base : IW w' lo r g n O co D cd ts ds os h s ∨ True := .inr trivial
  exact ⟨row2, ht.grown9 (one_grown9 w' r 2 _) (fun e => k.gr (by injection e with e; exact e.symm)), own_set ho' row' (by decide) 2 _, hm.grown (one_grown9 w' r 2 _) (fun z hz e => by injection e with e; have := k.mlo z hz; have := k.ge; omega), k.mlo, k.mc, k.ge⟩
end
theorem far3 {w : World} {g i b j : Nat} {x : Tk} {v : Value} (h : g ≠ b) (hc : w.cell? ⟨b, j, none⟩ = some v) : (put3 w g i x).cell? ⟨b, j, none⟩ = some v := by
  unfold put3
  rw [World.cell?_setCell_far _ ⟨g, i * 3 + 2, none⟩ ⟨b, j, none⟩ _ h, World.cell?_setCell_far _ ⟨g, i * 3 + 1, none⟩ ⟨b, j, none⟩ _ h, World.cell?_setCell_far _ ⟨g, i * 3, none⟩ ⟨b, j, none⟩ _ h]
  exact hc
end Go.Proofs.Ytpciaokafokfmaa
