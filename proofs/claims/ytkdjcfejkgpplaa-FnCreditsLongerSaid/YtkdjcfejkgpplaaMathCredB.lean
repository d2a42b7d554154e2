/-
  Chapter 13's mathematics, one slot more in another spelling. No condition.
-/
import Derived.Test.YtkdjcfejkgpplaaMathCred
namespace Go.Proofs.Ytkdjcfejkgpplaa

theorem cr_next2 {room d many t c wv s k m : Nat} {bt ft : Bool} {op : Nat → Bool} {fa ba : Nat → Bool} (h : crAt room d many op t = ⟨c, wv, s, k, m, fa, ba⟩) (hb : ba t = bt) (hf : fa t = ft) {T S : Bool} (hT : (op t && decide (0 < wv + ft.toNat)) = T) (hS : (decide (0 < c + bt.toNat) && decide (s < many)) = S) :
    crAt room d many op (t + 1) = ⟨c + bt.toNat - S.toNat, wv + ft.toNat - T.toNat, s + S.toNat, k + T.toNat, max m (wv + ft.toNat), upd1 fa (t + d) S, upd1 ba (t + d) T⟩ := by
  subst hb hf
  have e : crAt room d many op (t + 1) = stepC d many (op t) t (crAt room d many op t) := rfl
  have e1 : Cr.tk ⟨c, wv, s, k, m, fa, ba⟩ (op t) t = T := hT
  have e2 : Cr.sd ⟨c, wv, s, k, m, fa, ba⟩ many t = S := hS
  rw [e, h]
  unfold stepC
  rw [e1, e2]
  rfl
theorem cr_wm {room d many : Nat} (op : Nat → Bool) : ∀ t, (crAt room d many op t).w ≤ (crAt room d many op t).m
  | 0 => Nat.le_refl _
  | t + 1 => by
    unfold crAt
    generalize crAt room d many op t = x
    dsimp only [stepC]
    omega
end Go.Proofs.Ytkdjcfejkgpplaa
