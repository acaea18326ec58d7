/- The pieces of a text between separators: joined they are the text, and they alone. Nothing of the program but what Split says. -/
import Derived.Test.YtcbeoihgaccjcaaDoorSplit
import Derived.Test.YtcbeoihgaccjcaaDoorIFmtS
import Derived.Test.YtcbeoihgaccjcaaDoorIParseK
namespace Go.Proofs.YtcbeoihgaccjcaaDoor
open Go.RowKit
namespace Pc

theorem join_snoc (x : List UInt8) (sep : List UInt8) : ∀ (xs : List (List UInt8)), xs ≠ [] → Lib.join (xs ++ [x]) sep = Lib.join xs sep ++ sep ++ x
  | [], h => absurd rfl h
  | y :: r, _ => by
    rw [List.cons_append, Lib.join_cons, Lib.join_cons]
    simp [Lib.joinTail]

/-- The text of a part. -/
def txt (x : ByteArray) : List UInt8 := x.data.toList

theorem txt_extract (s : ByteArray) (i j : Nat) : txt (s.extract i j) = (s.data.toList.take j).drop i := by
  unfold txt
  rw [ByteArray.data_extract, Array.toList_extract, List.extract_eq_take_drop, List.drop_take]

/-- The pieces up to a place. -/
def pk (s : ByteArray) (b : UInt8) (k : Nat) : List ByteArray := (stp s (idx s b k)).1 ++ [s.extract (stp s (idx s b k)).2 k]

theorem pk_all (s : ByteArray) (b : UInt8) : ∀ k, k ≤ s.size → Lib.join ((pk s b k).map txt) [b] = s.data.toList.take k ∧ ∀ x ∈ pk s b k, b ∉ txt x := by
  intro k
  induction k with
  | zero =>
    intro _
    have h0 : idx s b 0 = [] := rfl
    unfold pk
    rw [h0]
    have e : stp s [] = ([], 0) := rfl
    rw [e]
    have ht : txt ByteArray.empty = [] := rfl
    simp [Lib.join_one, ht]
  | succ k ih =>
    intro hk
    obtain ⟨ih1, ih2⟩ := ih (by omega)
    have hst := stp_le s b k (by omega)
    have htk : s.data.toList.take (k + 1) = s.data.toList.take k ++ [s[k]] := by
      rw [List.take_add_one]
      have : s.data.toList[k]? = some s[k] := by
        rw [Array.getElem?_toList]; exact Array.getElem?_eq_getElem (by exact hk)
      rw [this]; rfl
    by_cases he : s[k] = b
    · have hp : pk s b (k + 1) = pk s b k ++ [s.extract (k + 1) (k + 1)] := by
        unfold pk
        rw [idx_hit (by omega) he, stp_snoc]
      have ht : txt (s.extract (k + 1) (k + 1)) = [] := by
        rw [txt_extract]; simp
      rw [hp]
      refine ⟨?_, ?_⟩
      · rw [List.map_append, List.map_cons, List.map_nil, join_snoc _ _ _ (by unfold pk; simp), ih1, ht, htk, he]; simp
      · intro x hx
        rcases List.mem_append.1 hx with h | h
        · exact ih2 x h
        · rw [List.mem_singleton.1 h, ht]; simp
    · obtain ⟨ps, hps⟩ : ∃ ps, ps = (stp s (idx s b k)).1 := ⟨_, rfl⟩
      obtain ⟨st, hstq⟩ : ∃ st, st = (stp s (idx s b k)).2 := ⟨_, rfl⟩
      have hp0 : pk s b k = ps ++ [s.extract st k] := by unfold pk; rw [← hps, ← hstq]
      have hp : pk s b (k + 1) = ps ++ [s.extract st (k + 1)] := by
        unfold pk
        rw [idx_miss (by omega) he, ← hps, ← hstq]
      have ht : txt (s.extract st (k + 1)) = txt (s.extract st k) ++ [s[k]] := by
        rw [txt_extract, txt_extract, htk, List.drop_append_of_le_length]
        have : s.data.toList.length = s.size := Array.length_toList
        rw [List.length_take]; omega
      rw [hp0] at ih1 ih2
      rw [hp]
      refine ⟨?_, ?_⟩
      · rw [htk, ← ih1]
        rw [List.map_append, List.map_append, List.map_cons, List.map_nil, List.map_cons, List.map_nil, ht]
        cases hq : ps.map txt with
        | nil => simp [Lib.join_one]
        | cons y r => rw [join_snoc _ _ _ (by simp), join_snoc _ _ _ (by simp)]; simp
      · intro x hx
        rcases List.mem_append.1 hx with h | h
        · exact ih2 x (List.mem_append.2 (.inl h))
        · rw [List.mem_singleton.1 h, ht]
          have := ih2 (s.extract st k) (List.mem_append.2 (.inr (by simp)))
          intro hm
          rcases List.mem_append.1 hm with h | h
          · exact this h
          · exact he (List.mem_singleton.1 h).symm

theorem idx_none {x : ByteArray} {b : UInt8} (h : b ∉ txt x) (k : Nat) : idx x b k = [] := by
  unfold idx
  rw [List.filter_eq_nil_iff]
  intro i _ hq
  have : x.data[i]? = some b := by simpa using hq
  apply h
  unfold txt
  exact List.mem_of_getElem? (by rw [Array.getElem?_toList]; exact this)

theorem jn_pieces (s sep : ByteArray) (b : UInt8) (hs : sep.data.toList = [b]) : jn (pieces s b) sep (pieces s b).length = s.data.toList := by
  have h := (pk_all s b s.size (Nat.le_refl _)).1
  have e : s.data.toList.take s.size = s.data.toList := List.take_of_length_le (Nat.le_of_eq Array.length_toList)
  unfold jn
  rw [List.take_length, hs]
  rw [e] at h
  exact h

end Pc

/-- Texts without the separator are settled by what they are joined to. -/
theorem join_inj (b : UInt8) : ∀ (xs ys : List (List UInt8)), xs ≠ [] → ys ≠ [] → (∀ x ∈ xs, b ∉ x) → (∀ y ∈ ys, b ∉ y) → Lib.join xs [b] = Lib.join ys [b] → xs = ys := by
  have cut : ∀ (u v r t : List UInt8), b ∉ u → b ∉ v → u ++ b :: r = v ++ b :: t → u = v ∧ r = t := by
    intro u
    induction u with
    | nil =>
      intro v r t _ hv h
      cases v with
      | nil => simp at h; exact ⟨rfl, h⟩
      | cons z v => simp at h; exact absurd (h.1 ▸ List.mem_cons_self) hv
    | cons z u ih =>
      intro v r t hu hv h
      cases v with
      | nil => simp at h; exact absurd (h.1 ▸ List.mem_cons_self) hu
      | cons z' v =>
        simp at h
        obtain ⟨rfl, h⟩ := h
        obtain ⟨rfl, rfl⟩ := ih v r t (fun m => hu (List.mem_cons_of_mem _ m)) (fun m => hv (List.mem_cons_of_mem _ m)) h
        exact ⟨rfl, rfl⟩
  have two : ∀ (x y : List UInt8) (r : List (List UInt8)), Lib.join (x :: y :: r) [b] = x ++ b :: Lib.join (y :: r) [b] := by
    intro x y r
    rw [Lib.join_cons, Lib.join_cons]
    simp [Lib.joinTail]
  intro xs
  induction xs with
  | nil => intro ys h; exact absurd rfl h
  | cons x xs ih =>
    intro ys _ hy hx1 hy1 h
    cases ys with
    | nil => exact absurd rfl hy
    | cons y ys =>
      cases xs with
      | nil =>
        cases ys with
        | nil => rw [Lib.join_one, Lib.join_one] at h; rw [h]
        | cons y2 ys =>
          rw [Lib.join_one, two] at h
          exact absurd (by rw [h]; simp) (hx1 x (by simp))
      | cons x2 xs =>
        cases ys with
        | nil =>
          rw [Lib.join_one, two] at h
          exact absurd (by rw [← h]; simp) (hy1 y (by simp))
        | cons y2 ys =>
          rw [two, two] at h
          obtain ⟨e, h'⟩ := cut x y _ _ (hx1 x (by simp)) (hy1 y (by simp)) h
          have := ih (y2 :: ys) (by simp) (by simp) (fun z hz => hx1 z (List.mem_cons_of_mem _ hz)) (fun z hz => hy1 z (List.mem_cons_of_mem _ hz)) h'
          subst e
          rw [this]

theorem pieces_join (s : ByteArray) (b : UInt8) : Lib.join ((pieces s b).map Pc.txt) [b] = s.data.toList ∧ ∀ x ∈ pieces s b, b ∉ Pc.txt x := by
  have := Pc.pk_all s b s.size (Nat.le_refl _)
  have e : s.data.toList.take s.size = s.data.toList := List.take_of_length_le (by rw [Array.length_toList]; exact Nat.le_refl _)
  rw [e] at this
  exact this

/-- A text that is one key. -/
def KeyIs (x : ByteArray) (k : Int × Bool × Bool × Bool) : Prop := x.data.toList = Lib.itoa k.1 ++ suff k.2.1 k.2.2.1 k.2.2.2

theorem KeyIs.uniq {x : ByteArray} {k k' : Int × Bool × Bool × Bool} (h : KeyIs x k) (h' : KeyIs x k') : k = k' := by
  obtain ⟨n, a, b, c⟩ := k
  obtain ⟨n', a', b', c'⟩ := k'
  obtain ⟨e1, e2, e3, e4⟩ := cuts_of (l1 := Lib.itoa n ++ suff a b false) (l2 := Lib.itoa n ++ suff a false false) (l3 := Lib.itoa n) (a := a) (b := b) (c := c) (plain_itoa n') h' (by
      rw [show x.data.toList = Lib.itoa n ++ suff a b c from h]
      cases c with
      | true => rw [show Lib.itoa n ++ suff a b true = (Lib.itoa n ++ suff a b false) ++ [102] by simp [suff], cut1_yes]
      | false =>
        rw [cut1_no]
        obtain ⟨p1, p2, p3⟩ := plain_itoa n
        cases a <;> cases b <;> simp [suff] <;> assumption) (by
      cases b with
      | true => rw [show Lib.itoa n ++ suff a true false = (Lib.itoa n ++ suff a false false) ++ [100] by simp [suff], cut1_yes]
      | false =>
        rw [cut1_no]
        obtain ⟨p1, p2, p3⟩ := plain_itoa n
        cases a <;> simp [suff] <;> assumption) (by
      cases a with
      | true => rw [show Lib.itoa n ++ suff true false false = Lib.itoa n ++ [110] by simp [suff], cut1_yes]
      | false =>
        rw [show Lib.itoa n ++ suff false false false = Lib.itoa n by simp [suff], cut1_no]
        exact (plain_itoa n).2.2)
  rw [e2, e3, e4]
  have : n = n' := itoa_inj e1
  rw [this]

theorem keyIs_text {x : ByteArray} {k : Int × Bool × Bool × Bool} (h0 : 0 ≤ k.1) : KeyIs x k ↔ x.data.toList = keyText k := by
  obtain ⟨n, a, b, c⟩ := k
  obtain ⟨u, rfl⟩ : ∃ u : Nat, n = u := ⟨n.toNat, by have : 0 ≤ n := h0; omega⟩
  unfold KeyIs keyText
  rw [show Lib.itoa ((u : Int), a, b, c).1 = Lib.decDigits u from Lib.itoa_nonneg u]
  simp [suff]

/-- s is the text of these keys. -/
def ParsedOf (s : ByteArray) (ks : List (Int × Bool × Bool × Bool)) : Prop := OkS ks ∧ specText ks = s.data.toList
def AllKeys (P : List ByteArray) (ks : List (Int × Bool × Bool × Bool)) : Prop := ks.length = P.length ∧ ∀ (j : Nat) x k, P[j]? = some x → ks[j]? = some k → KeyIs x k

theorem AllKeys.uniq {P : List ByteArray} {ks ks' : List (Int × Bool × Bool × Bool)} (h : AllKeys P ks) (h' : AllKeys P ks') : ks = ks' := by
  refine List.ext_getElem (by rw [h.1, h'.1]) fun j h1 h2 => ?_
  have hj : j < P.length := by rw [← h.1]; exact h1
  exact (h.2 j _ _ (List.getElem?_eq_getElem hj) (List.getElem?_eq_getElem h1)).uniq (h'.2 j _ _ (List.getElem?_eq_getElem hj) (List.getElem?_eq_getElem h2))

theorem allKeys_map {P : List ByteArray} {ks : List (Int × Bool × Bool × Bool)} (hok : ∀ p ∈ ks, 0 ≤ p.1 ∧ p.1 ≤ 5) : AllKeys P ks ↔ P.map Pc.txt = ks.map keyText := by
  constructor
  · intro h
    refine List.ext_getElem (by simp [h.1]) fun j h1 h2 => ?_
    have hj : j < P.length := by simpa using h1
    have hk : j < ks.length := by simpa using h2
    simp only [List.getElem_map]
    exact (keyIs_text (hok _ (List.getElem_mem hk)).1).1 (h.2 j _ _ (List.getElem?_eq_getElem hj) (List.getElem?_eq_getElem hk))
  · intro h
    have hl : ks.length = P.length := by have := congrArg List.length h; simpa using this.symm
    refine ⟨hl, fun j x k hx hk => ?_⟩
    have h1 : (P.map Pc.txt)[j]? = some (Pc.txt x) := by rw [List.getElem?_map, hx]; rfl
    rw [h, List.getElem?_map, hk] at h1
    exact (keyIs_text (hok k (List.mem_of_getElem? hk)).1).2 (Option.some.inj h1).symm

/-- The text of keys, cut at its separators, is the keys' texts; and the other way round. -/
theorem parsed_iff {s : ByteArray} {ks : List (Int × Bool × Bool × Bool)} (hok : OkS ks) : specText ks = s.data.toList ↔ AllKeys (pieces s 44) ks := by
  rw [allKeys_map hok.2]
  obtain ⟨h1, h2⟩ := pieces_join s 44
  have hne : (pieces s 44).map Pc.txt ≠ [] := by unfold pieces; simp
  have hke : ks.map keyText ≠ [] := by intro h; have := hok.1.1; rw [List.map_eq_nil_iff.1 h] at this; simp at this
  constructor
  · intro h
    refine join_inj 44 _ _ hne hke (fun x hx => ?_) (fun y hy => ?_) (by rw [h1, ← h]; rfl)
    · obtain ⟨p, hp, rfl⟩ := List.mem_map.1 hx; exact h2 p hp
    · obtain ⟨p, hp, rfl⟩ := List.mem_map.1 hy
      exact fun hm => keyText_free (hok.2 p hp) 44 hm rfl
  · intro h
    unfold specText
    rw [← h, h1]

theorem parsed_small {s : ByteArray} {ks : List (Int × Bool × Bool × Bool)} (h : ParsedOf s ks) : s.size ≤ 20 := by
  have h1 := specText_len ks h.1.2 ks.length (Nat.le_refl _)
  rw [List.take_length, h.2, Array.length_toList] at h1
  have := h.1.1.2
  show s.data.size ≤ 20
  omega

end Go.Proofs.YtcbeoihgaccjcaaDoor
