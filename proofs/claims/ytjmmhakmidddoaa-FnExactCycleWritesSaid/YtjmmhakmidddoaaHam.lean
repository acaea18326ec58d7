/- Places that differ, counted one by one: pure. -/
import Derived.Test.YtjmmhakmidddoaaElem2
namespace Go.Proofs.Ytjmmhakmidddoaa
namespace El
open P

theorem ham_take : ∀ (l s : List Int) (k : Nat) (x y : Int), l[k]? = some x → s[k]? = some y → ham (l.take (k + 1)) (s.take (k + 1)) = ham (l.take k) (s.take k) + if x = y then 0 else 1
  | [], _, k, x, y, h, _ => by simp at h
  | u :: l, [], k, x, y, _, h => by simp at h
  | u :: l, v :: s, 0, x, y, h1, h2 => by
    simp only [List.getElem?_cons_zero, Option.some.injEq] at h1 h2
    subst h1; subst h2
    show ham [u] [v] = ham [] [] + _
    rw [ham_cons]
  | u :: l, v :: s, k + 1, x, y, h1, h2 => by
    rw [List.getElem?_cons_succ] at h1 h2
    have ih := ham_take l s k x y h1 h2
    show ham (u :: l.take (k + 1)) (v :: s.take (k + 1)) = ham (u :: l.take k) (v :: s.take k) + _
    rw [ham_cons, ham_cons, ih]
    omega
theorem ham_le (a b : List Int) : ham a b ≤ a.length := by
  unfold ham
  refine Nat.le_trans List.countP_le_length ?_
  rw [List.length_zip]; omega

end El
end Go.Proofs.Ytjmmhakmidddoaa
