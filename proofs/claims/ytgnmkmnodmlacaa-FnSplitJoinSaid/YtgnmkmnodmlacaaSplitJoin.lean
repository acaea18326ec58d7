/- Splitting and joining are inverse; the order of texts is asymmetric. -/
import Derived.Test.YtgnmkmnodmlacaaSplitL
import Derived.Test.YtgnmkmnodmlacaaJoin
import Derived.Test.YtgnmkmnodmlacaaDrawJ
namespace Go.Proofs.Ytgnmkmnodmlacaa
open Go.RowKit

theorem join_snoc (x : List UInt8) (sep : List UInt8) : ∀ (xs : List (List UInt8)), xs ≠ [] → Lib.join (xs ++ [x]) sep = Lib.join xs sep ++ sep ++ x
  | [], h => absurd rfl h
  | y :: r, _ => by
    rw [List.cons_append, Lib.join_cons, Lib.join_cons]
    simp [Lib.joinTail]

/-- The text of a part. -/
def txt (x : ByteArray) : List UInt8 := x.data.toList

theorem txt_extract (s : ByteArray) (i j : Nat) : txt (s.extract i j) = (s.data.toList.take j).drop i := by
  unfold txt
  rw [ByteArray.data_extract, Array.toList_extract, List.extract_eq_take_drop, List.drop_take]

/-- The pieces up to a place. -/
def pk (s : ByteArray) (b : UInt8) (k : Nat) : List ByteArray := (stp s (idx s b k)).1 ++ [s.extract (stp s (idx s b k)).2 k]

theorem pk_all (s : ByteArray) (b : UInt8) : ∀ k, k ≤ s.size → Lib.join ((pk s b k).map txt) [b] = s.data.toList.take k ∧ ∀ x ∈ pk s b k, b ∉ txt x := by
  intro k
  induction k with
  | zero =>
    intro _
    have h0 : idx s b 0 = [] := rfl
    unfold pk
    rw [h0]
    have e : stp s [] = ([], 0) := rfl
    rw [e]
    have ht : txt ByteArray.empty = [] := rfl
    simp [Lib.join_one, ht]
  | succ k ih =>
    intro hk
    obtain ⟨ih1, ih2⟩ := ih (by omega)
    have hst := stp_le s b k (by omega)
    have htk : s.data.toList.take (k + 1) = s.data.toList.take k ++ [s[k]] := by
      rw [List.take_add_one]
      have : s.data.toList[k]? = some s[k] := by
        rw [Array.getElem?_toList]; exact Array.getElem?_eq_getElem (by exact hk)
      rw [this]; rfl
    by_cases he : s[k] = b
    · have hp : pk s b (k + 1) = pk s b k ++ [s.extract (k + 1) (k + 1)] := by
        unfold pk
        rw [idx_hit (by omega) he, stp_snoc]
      have ht : txt (s.extract (k + 1) (k + 1)) = [] := by
        rw [txt_extract]; simp
      rw [hp]
      refine ⟨?_, ?_⟩
      · rw [List.map_append, List.map_cons, List.map_nil, join_snoc _ _ _ (by unfold pk; simp), ih1, ht, htk, he]; simp
      · intro x hx
        rcases List.mem_append.1 hx with h | h
        · exact ih2 x h
        · rw [List.mem_singleton.1 h, ht]; simp
    · obtain ⟨ps, hps⟩ : ∃ ps, ps = (stp s (idx s b k)).1 := ⟨_, rfl⟩
      obtain ⟨st, hstq⟩ : ∃ st, st = (stp s (idx s b k)).2 := ⟨_, rfl⟩
      have hp0 : pk s b k = ps ++ [s.extract st k] := by unfold pk; rw [← hps, ← hstq]
      have hp : pk s b (k + 1) = ps ++ [s.extract st (k + 1)] := by
        unfold pk
        rw [idx_miss (by omega) he, ← hps, ← hstq]
      have ht : txt (s.extract st (k + 1)) = txt (s.extract st k) ++ [s[k]] := by
        rw [txt_extract, txt_extract, htk, List.drop_append_of_le_length]
        have : s.data.toList.length = s.size := Array.length_toList
        rw [List.length_take]; omega
      rw [hp0] at ih1 ih2
      rw [hp]
      refine ⟨?_, ?_⟩
      · rw [htk, ← ih1]
        rw [List.map_append, List.map_append, List.map_cons, List.map_nil, List.map_cons, List.map_nil, ht]
        cases hq : ps.map txt with
        | nil => simp [Lib.join_one]
        | cons y r => rw [join_snoc _ _ _ (by simp), join_snoc _ _ _ (by simp)]; simp
      · intro x hx
        rcases List.mem_append.1 hx with h | h
        · exact ih2 x (List.mem_append.2 (.inl h))
        · rw [List.mem_singleton.1 h, ht]
          have := ih2 (s.extract st k) (List.mem_append.2 (.inr (by simp)))
          intro hm
          rcases List.mem_append.1 hm with h | h
          · exact this h
          · exact he (List.mem_singleton.1 h).symm

theorem idx_none {x : ByteArray} {b : UInt8} (h : b ∉ txt x) (k : Nat) : idx x b k = [] := by
  unfold idx
  rw [List.filter_eq_nil_iff]
  intro i _ hq
  have : x.data[i]? = some b := by simpa using hq
  apply h
  unfold txt
  exact List.mem_of_getElem? (by rw [Array.getElem?_toList]; exact this)

theorem jn_pieces (s sep : ByteArray) (b : UInt8) (hs : sep.data.toList = [b]) : jn (pieces s b) sep (pieces s b).length = s.data.toList := by
  have h := (pk_all s b s.size (Nat.le_refl _)).1
  have e : s.data.toList.take s.size = s.data.toList := List.take_of_length_le (Nat.le_of_eq Array.length_toList)
  unfold jn
  rw [List.take_length, hs]
  rw [e] at h
  exact h

theorem sep_one {sep : ByteArray} (h1 : sep.size = 1) (h0 : 0 < sep.size) : sep.data.toList = [sep[0]] := by
  have hl : sep.data.toList.length = 1 := h1
  obtain ⟨c, hc⟩ := List.length_eq_one_iff.1 hl
  have : sep.data.toList[0]? = some sep[0] := by
    rw [Array.getElem?_toList]; exact Array.getElem?_eq_getElem h0
  rw [hc] at this ⊢
  simp at this
  rw [this]

/-- Joined again. -/
theorem join_back (s sep : ByteArray) (b : UInt8) (hs : s.size ≤ 4000) (h1 : sep.size = 1) (h0 : 0 < sep.size) (hy : sep[0] = b) : joinVal (pieces s b) sep b = .tuple #[.string s, .bool true] := by
  have hj := jn_pieces s sep b (by rw [sep_one h1 h0, hy])
  have hlen : s.data.toList.length = s.size := Array.length_toList
  have hg : Good (pieces s b) b := good_of h1 (pieces_one s b) (fun k x _ hx => idx_none ((pk_all s b s.size (Nat.le_refl _)).2 x (List.mem_of_getElem? hx)) _) (by rw [hj, hlen]; exact hs)
  unfold joinVal
  rw [if_pos hg, hj, ba_eta]

theorem pieces_small (s : ByteArray) (b : UInt8) (j : Nat) (x : ByteArray) (h : (pieces s b)[j]? = some x) : x.size ≤ s.size + 1 := by
  have hj := bytesOf_mem h
  have hl := jn_length (xs := pieces s b) (sep := ⟨#[b]⟩) rfl ((pieces s b).length - 1) (by have := pieces_one s b; omega)
  have h1 := pieces_one s b
  rw [show (pieces s b).length - 1 + 1 = (pieces s b).length by omega, jn_pieces s ⟨#[b]⟩ b rfl, List.take_length] at hl
  have hlen : s.data.toList.length = s.size := Array.length_toList
  omega

theorem strsAt_gen {w : World} {base : Nat} {v : Value} {P : List ByteArray} (h : w.ownsRow base 9 1 v P.length (P.map Value.string)) : StrsAt w v P := by
  cases hn : P.length with
  | zero =>
    obtain rfl := List.eq_nil_of_length_eq_zero hn
    rcases h.2 with ⟨e, _⟩ | ⟨g', cap', cur, e, _, _, h1, _⟩
    · subst e; exact ⟨none, 0, rfl, Nat.le_refl _, fun j x h => by simp at h⟩
    · subst e; exact ⟨_, cap', rfl, Nat.zero_le _, fun j x h => by simp at h⟩
  | succ n =>
    have h2 := h
    rw [hn] at h2
    obtain ⟨g, cap, rfl⟩ := ownsRow_succ h2
    rw [← hn] at h ⊢
    exact strsAt_own h

theorem less_asym : ∀ (x y : List UInt8), (Op.bytesLess x y && Op.bytesLess y x) = false
  | [], [] => rfl
  | _ :: _, [] => rfl
  | [], _ :: _ => rfl
  | a :: x, b :: y => by
    have ih := less_asym x y
    unfold Op.bytesLess
    rcases Nat.lt_trichotomy a.toNat b.toNat with h | h | h
    · have h1 : a < b := h
      have h2 : ¬ b < a := fun h' => by have : b.toNat < a.toNat := h'; omega
      have h3 : (b == a) = false := by rw [beq_eq_false_iff_ne]; rintro rfl; omega
      simp [h2, h3]
    · have hab : a = b := UInt8.toNat_inj.1 h
      subst hab
      have h2 : ¬ a < a := fun h' => by have : a.toNat < a.toNat := h'; omega
      simp only [h2, decide_false, Bool.false_or, beq_self_eq_true, Bool.true_and]
      exact ih
    · have h1 : b < a := h
      have h2 : ¬ a < b := fun h' => by have : a.toNat < b.toNat := h'; omega
      have h3 : (a == b) = false := by rw [beq_eq_false_iff_ne]; rintro rfl; omega
      simp [h2, h3]

theorem implLess_any (a b : ByteArray) (w : World) : Calls Try.prog 15 #[.string a, .string b] w fun e w' => e = .returned (.bool (Op.bytesLess a.toList b.toList)) ∧ w' = w := by
  go_enter Try.func15, Try.ntmps15
  go_wp2
  go_ret
  exact ⟨rfl, rfl⟩
theorem specLess_any (a b : ByteArray) (w : World) : Calls Try.prog 16 #[.string a, .string b] w fun e w' => e = .returned (.bool (Op.bytesLess a.toList b.toList)) ∧ w' = w := by
  go_enter Try.func16, Try.ntmps16
  go_wp2
  go_ret
  exact ⟨rfl, rfl⟩

theorem less_all (a b : ByteArray) : ∃ p q : Bool, (p && q) = false ∧ (∀ w, Calls Try.prog 15 #[.string a, .string b] w fun e w' => e = .returned (.bool p) ∧ w' = w) ∧
    (∀ w, Calls Try.prog 16 #[.string a, .string b] w fun e w' => e = .returned (.bool p) ∧ w' = w) ∧ (∀ w, Calls Try.prog 15 #[.string b, .string a] w fun e w' => e = .returned (.bool q) ∧ w' = w) :=
  ⟨_, _, less_asym a.toList b.toList, implLess_any a b, specLess_any a b, implLess_any b a⟩

end Go.Proofs.Ytgnmkmnodmlacaa
