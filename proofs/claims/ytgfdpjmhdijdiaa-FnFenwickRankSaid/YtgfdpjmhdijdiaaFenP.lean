/- Trees of partial sums, as functions: the sums and the values, an addition, a prefix, the element of a rank. Nothing of the program. -/
import Derived.Laws.BitsLemmas
namespace Go.Proofs.Ytgfdpjmhdijdiaa
set_option linter.unusedVariables false
namespace Fw

/-- The lowest binary digit of n, as a mask finds it. -/
def lo (n : Nat) : Nat := n &&& (18446744073709551616 - n)

theorem lo_le (n : Nat) : lo n ≤ n := Nat.and_le_left

theorem lo_pos_dec : ∀ n < 127, 1 ≤ lo (n + 1) := by decide +kernel
theorem lo_pos {n : Nat} (h0 : 1 ≤ n) (h : n ≤ 127) : 1 ≤ lo n := by
  obtain ⟨m, rfl⟩ : ∃ m, n = m + 1 := ⟨n - 1, by omega⟩
  exact lo_pos_dec m (by omega)

/-- The parts of the sum with the index t, in their order. -/
def parts (t : Nat) : List Nat := (List.range t).filter fun c => c + lo (c + 1) == t

/-- A list of sums of which each begins where the one before it ends. -/
def Chn : Nat → Nat → List Nat → Bool
  | a, b, [] => a == b
  | a, b, c :: r => (c + 1 - lo (c + 1) == a) && Chn (c + 1) b r

theorem parts_chn_dec : ∀ t < 127, Chn (t + 1 - lo (t + 1)) t (parts t) = true := by decide +kernel

theorem chn_sum {P R : Nat → Int} : ∀ (l : List Nat) (a b : Nat), Chn a b l = true → (∀ c ∈ l, R c = P (c + 1) - P (c + 1 - lo (c + 1))) → (l.map R).sum = P b - P a
  | [], a, b, h, _ => by simp [Chn] at h; simp [h]
  | c :: r, a, b, h, hR => by
    simp [Chn] at h
    obtain ⟨h1, h2⟩ := h
    have e := chn_sum r (c + 1) b h2 (fun d hd => hR d (by simp [hd]))
    have := hR c (by simp)
    simp [e, this, h1]
    omega

/-- What the first m sums give to the sum with the index t. -/
def A (R : Nat → Int) (t : Nat) : Nat → Int
  | 0 => 0
  | m + 1 => A R t m + if m + lo (m + 1) = t then R m else 0

theorem A_filter (R : Nat → Int) (t m : Nat) : A R t m = (((List.range m).filter fun c => c + lo (c + 1) == t).map R).sum := by
  induction m with
  | zero => simp [A]
  | succ m ih =>
    rw [A, ih, List.range_succ]
    by_cases h : m + lo (m + 1) = t <;> simp [h]

theorem A_congr {R Q : Nat → Int} {t : Nat} : ∀ {m : Nat}, (∀ c < m, R c = Q c) → A R t m = A Q t m
  | 0, _ => rfl
  | m + 1, h => by rw [A, A, A_congr (fun c hc => h c (by omega)), h m (by omega)]

/-- The parts of a sum, but for the value itself. -/
theorem A_all {P R : Nat → Int} {t : Nat} (ht : t < 127) (hR : ∀ c < t, R c = P (c + 1) - P (c + 1 - lo (c + 1))) : A R t t = P t - P (t + 1 - lo (t + 1)) := by
  rw [A_filter]
  exact chn_sum _ _ _ (parts_chn_dec t ht) fun c hc => hR c (by simp at hc; exact hc.1)

theorem A_over {R : Nat → Int} {t : Nat} (ht : t < 127) : ∀ (m : Nat), t ≤ m → m ≤ 127 → A R t m = A R t t
  | 0, h, _ => by have : t = 0 := by omega
                  rw [this]
  | m + 1, h, h' => by
    by_cases e : t = m + 1
    · rw [e]
    · rw [A, A_over ht m (by omega) (by omega), if_neg, Int.add_zero]
      have := lo_pos (n := m + 1) (by omega) (by omega)
      omega

/-- The sum of the first t elements. -/
def pre (v : List Int) (t : Nat) : Int := (v.take t).sum

theorem pre_zero (v : List Int) : pre v 0 = 0 := by simp [pre]
theorem pre_succ {v : List Int} {t : Nat} (h : t < v.length) : pre v (t + 1) = pre v t + v.getD t 0 := by
  rw [pre, pre, List.take_add_one, List.getElem?_eq_getElem h, List.getD_eq_getElem?_getD, List.getElem?_eq_getElem h, List.sum_append]; simp only [Option.toList, Option.getD, List.sum_cons, List.sum_nil, Int.add_zero]
theorem pre_append {v u : List Int} {t : Nat} (h : t ≤ v.length) : pre (v ++ u) t = pre v t := by
  simp [pre, List.take_append_of_le_length h]
theorem pre_all (v : List Int) : pre v v.length = v.sum := by simp [pre]

/-- The sums of the values. -/
def bs (v : List Int) : List Int := (List.range v.length).map fun i => pre v (i + 1) - pre v (i + 1 - lo (i + 1))
theorem bs_len (v : List Int) : (bs v).length = v.length := by simp [bs]
theorem bs_at {v : List Int} {i : Nat} (h : i < v.length) : (bs v).getD i 0 = pre v (i + 1) - pre v (i + 1 - lo (i + 1)) := by
  simp [bs, List.getD_eq_getElem?_getD, List.getElem?_map, List.getElem?_range h]

/-- The values of the sums. -/
def tv (S : List Int) : Nat → List Int
  | 0 => []
  | m + 1 => tv S m ++ [S.getD m 0 - (pre (tv S m) m - pre (tv S m) (m + 1 - lo (m + 1)))]
theorem tv_len (S : List Int) (m : Nat) : (tv S m).length = m := by
  induction m with
  | zero => rfl
  | succ m ih => simp [tv, ih]
theorem tv_pre (S : List Int) : ∀ {m n t : Nat}, t ≤ m → m ≤ n → pre (tv S n) t = pre (tv S m) t
  | m, 0, t, h, h' => by have : m = 0 := by omega
                         rw [this]
  | m, n + 1, t, h, h' => by
    by_cases e : m = n + 1
    · rw [e]
    · rw [tv, pre_append (by rw [tv_len]; omega), tv_pre S h (by omega)]
theorem tv_is (S : List Int) {m i : Nat} (hi : i < m) (hm : m ≤ 127) : S.getD i 0 = pre (tv S m) (i + 1) - pre (tv S m) (i + 1 - lo (i + 1)) := by
  have h1 := lo_pos (n := i + 1) (by omega) (by omega)
  rw [tv_pre S (m := i + 1) (n := m) (Nat.le_refl _) (by omega), tv_pre S (m := i) (n := m) (t := i + 1 - lo (i + 1)) (by omega) (by omega),
    pre_succ (v := tv S (i + 1)) (t := i) (by rw [tv_len]; omega), tv_pre S (m := i) (n := i + 1) (Nat.le_refl _) (by omega)]
  have e : (tv S (i + 1)).getD i 0 = S.getD i 0 - (pre (tv S i) i - pre (tv S i) (i + 1 - lo (i + 1))) := by
    rw [tv, List.getD_eq_getElem?_getD, List.getElem?_append_right (by rw [tv_len]; omega)]
    simp [tv_len]
  rw [e]; omega

/-- Two lists with the same sums are one. -/
theorem pre_ext {u v : List Int} (hl : u.length = v.length) (h : ∀ t ≤ u.length, pre u t = pre v t) : u = v := by
  refine List.ext_getElem hl fun i h1 h2 => ?_
  have e1 := pre_succ (v := u) (t := i) h1
  have e2 := pre_succ (v := v) (t := i) h2
  rw [h i (by omega), h (i + 1) (by omega), e2] at e1
  simp [List.getD_eq_getElem?_getD, h1, h2] at e1
  omega

theorem bs_inj {u v : List Int} (hl : u.length = v.length) (hn : u.length ≤ 127) (h : ∀ i < u.length, pre u (i + 1) - pre u (i + 1 - lo (i + 1)) = pre v (i + 1) - pre v (i + 1 - lo (i + 1))) : u = v := by
  refine pre_ext hl fun t => ?_
  induction t using Nat.strongRecOn with
  | _ t ih =>
    intro ht
    match t, ih, ht with
    | 0, _, _ => rw [pre_zero, pre_zero]
    | t + 1, ih, ht =>
      have e := h t (by omega)
      have hp := lo_pos (n := t + 1) (by omega) (by omega)
      rw [ih (t + 1 - lo (t + 1)) (by omega) (by omega)] at e
      omega

theorem tv_bs {v : List Int} (hn : v.length ≤ 127) : tv (bs v) v.length = v :=
  bs_inj (tv_len _ _) (by rw [tv_len]; exact hn) fun i hi => by
    rw [tv_len] at hi
    rw [← tv_is (bs v) hi hn, bs_at hi]

theorem bs_tv {S : List Int} (hn : S.length ≤ 127) : bs (tv S S.length) = S := by
  refine List.ext_getElem (by rw [bs_len, tv_len]) fun i h1 h2 => ?_
  have e := tv_is S h2 hn
  have e2 := bs_at (v := tv S S.length) (i := i) (by rw [tv_len]; exact h2)
  rw [← e] at e2
  simp [List.getD_eq_getElem?_getD, h1, h2] at e2
  exact e2


def wr (x : Int) : Int := (x + 9223372036854775808) % 18446744073709551616 - 9223372036854775808
theorem wr_wr_sub (x y : Int) : wr (wr x - y) = wr (x - y) := by unfold wr; omega
theorem wr_sub_wr (x y : Int) : wr (x - wr y) = wr (x - y) := by unfold wr; omega
theorem wr_wr_add (x y : Int) : wr (wr x + y) = wr (x + y) := by unfold wr; omega
theorem wr_add_wr (x y : Int) : wr (x + wr y) = wr (x + y) := by unfold wr; omega
theorem wr_wr (x : Int) : wr (wr x) = wr x := by unfold wr; omega
theorem wr_id {x : Int} (h : -9223372036854775808 ≤ x ∧ x < 9223372036854775808) : wr x = x := by unfold wr; omega

/-- All elements are numbers of the machine. -/
def IsW (l : List Int) : Prop := ∀ x ∈ l, -9223372036854775808 ≤ x ∧ x < 9223372036854775808
theorem IsW.at {l : List Int} (h : IsW l) (i : Nat) : -9223372036854775808 ≤ l.getD i 0 ∧ l.getD i 0 < 9223372036854775808 := by
  by_cases hi : i < l.length
  · rw [List.getD_eq_getElem?_getD, List.getElem?_eq_getElem hi]; exact h _ (List.getElem_mem hi)
  · rw [List.getD_eq_getElem?_getD, List.getElem?_eq_none (by omega)]; decide

theorem getD_set (l : List Int) (i j : Nat) (x : Int) (hi : i < l.length) : (l.set i x).getD j 0 = if i = j then x else l.getD j 0 := by
  rw [List.getD_eq_getElem?_getD, List.getD_eq_getElem?_getD, List.getElem?_set]
  by_cases h : i = j
  · subst h; simp [hi]
  · simp [h]
theorem ext_getD {u v : List Int} (hl : u.length = v.length) (h : ∀ i < u.length, u.getD i 0 = v.getD i 0) : u = v := by
  refine List.ext_getElem hl fun i h1 h2 => ?_
  have := h i h1
  simpa [List.getD_eq_getElem?_getD, h1, h2] using this
theorem getD_map {f : Int → Int} {l : List Int} {i : Nat} (h : i < l.length) : (l.map f).getD i 0 = f (l.getD i 0) := by
  simp [List.getD_eq_getElem?_getD, h]

/-- The program's differences, after m rounds. -/
def fv (S : List Int) : Nat → List Int
  | 0 => S
  | m + 1 => if m + lo (m + 1) < (fv S m).length then (fv S m).set (m + lo (m + 1)) (wr ((fv S m).getD (m + lo (m + 1)) 0 - S.getD m 0)) else fv S m
theorem fv_len (S : List Int) (m : Nat) : (fv S m).length = S.length := by
  induction m with
  | zero => rfl
  | succ m ih => rw [fv]; split <;> simp [ih]
theorem fv_at {S : List Int} (hS : IsW S) (m t : Nat) (ht : t < S.length) : (fv S m).getD t 0 = wr (S.getD t 0 - A (fun c => S.getD c 0) t m) := by
  induction m generalizing t with
  | zero => rw [fv, A, Int.sub_zero, wr_id (hS.at t)]
  | succ m ih =>
    rw [fv, A]
    split
    · rename_i h
      rw [getD_set _ _ _ _ h]
      split
      · rename_i e
        rw [ih _ (by rw [fv_len] at h; exact h), wr_wr_sub, ← e]
        congr 1; omega
      · rename_i e
        rw [ih t ht, Int.add_zero]
    · rename_i h
      rw [fv_len] at h
      rw [ih t ht, if_neg (by omega), Int.add_zero]

/-- The values of the sums, as the machine has them. -/
def vl (S : List Int) : List Int := (tv S S.length).map wr
theorem vl_len (S : List Int) : (vl S).length = S.length := by simp [vl, tv_len]

theorem fv_all {S : List Int} (hS : IsW S) (hn : S.length ≤ 126) : fv S S.length = vl S := by
  refine ext_getD (by rw [fv_len, vl_len]) fun t ht => ?_
  rw [fv_len] at ht
  have hR : ∀ c < S.length, S.getD c 0 = pre (tv S S.length) (c + 1) - pre (tv S S.length) (c + 1 - lo (c + 1)) := fun c hc => tv_is S hc (by omega)
  rw [fv_at hS _ _ ht, A_over (by omega) _ (by omega) (by omega), A_all (P := pre (tv S S.length)) (by omega) (fun c hc => hR c (by omega)), vl, getD_map (by rw [tv_len]; exact ht)]
  have h1 := hR t ht
  rw [pre_succ (by rw [tv_len]; exact ht)] at h1
  congr 1; omega

/-- The model's difference: n values from k on less. -/
def sb (vs : List Int) (v : Int) (k : Nat) : Nat → Int
  | 0 => v
  | n + 1 => wr (sb vs v k n - vs.getD (k + n) 0)
theorem sb_is (u : List Int) {v : Int} {k : Nat} (hv : wr v = v) : ∀ {n : Nat}, k + n ≤ u.length → sb (u.map wr) v k n = wr (v - (pre u (k + n) - pre u k))
  | 0, _ => by rw [sb, Nat.add_zero, Int.sub_self, Int.sub_zero, hv]
  | n + 1, h => by
    rw [sb, sb_is u hv (by omega), getD_map (by omega), wr_wr_sub, wr_sub_wr, ← Nat.add_assoc, pre_succ (by omega)]
    congr 1; omega
/-- The model's values, after m rounds. -/
def sv (S : List Int) : Nat → List Int
  | 0 => []
  | m + 1 => sv S m ++ [sb (sv S m) (S.getD m 0) (m + 1 - lo (m + 1)) (lo (m + 1) - 1)]
theorem sv_is {S : List Int} (hS : IsW S) : ∀ {m : Nat}, m ≤ 127 → sv S m = (tv S m).map wr
  | 0, _ => rfl
  | m + 1, h => by
    have hp := lo_pos (n := m + 1) (by omega) (by omega)
    have hle := lo_le (m + 1)
    rw [sv, sv_is hS (m := m) (by omega), sb_is _ (wr_id (hS.at m)) (by rw [tv_len]; omega), tv, List.map_append]
    simp only [List.map_cons, List.map_nil]
    rw [show m + 1 - lo (m + 1) + (lo (m + 1) - 1) = m from by omega]
theorem sv_all {S : List Int} (hS : IsW S) (hn : S.length ≤ 127) : sv S S.length = vl S := sv_is hS hn

/-- The program's sums, after m rounds. -/
def bg (v : List Int) : Nat → List Int
  | 0 => v
  | m + 1 => if m + lo (m + 1) < (bg v m).length then (bg v m).set (m + lo (m + 1)) (wr ((bg v m).getD (m + lo (m + 1)) 0 + (bg v m).getD m 0)) else bg v m
theorem bg_len (S : List Int) (m : Nat) : (bg S m).length = S.length := by
  induction m with
  | zero => rfl
  | succ m ih => rw [bg]; split <;> simp [ih]
theorem bg_at {v : List Int} (hv : IsW v) (hn : v.length ≤ 126) (m t : Nat) (hm : m ≤ v.length) (ht : t < v.length) : (bg v m).getD t 0 = wr (v.getD t 0 + A (fun c => (bs v).getD c 0) t m) := by
  induction m generalizing t with
  | zero => rw [bg, A, Int.add_zero, wr_id (hv.at t)]
  | succ m ih =>
    have hme : (bg v m).getD m 0 = wr ((bs v).getD m 0) := by
      rw [ih m (by omega) (by omega), A_all (P := pre v) (by omega) (fun c hc => bs_at (by omega)), bs_at (by omega), pre_succ (by omega)]
      congr 1; omega
    rw [bg, A]
    split
    · rename_i h
      rw [getD_set _ _ _ _ h]
      split
      · rename_i e
        rw [ih _ (by omega) (by rw [bg_len] at h; exact h), wr_wr_add, hme, wr_add_wr, ← e]
        congr 1; omega
      · rename_i e
        rw [ih t (by omega) ht, Int.add_zero]
    · rename_i h
      rw [bg_len] at h
      rw [ih t (by omega) ht, if_neg (by omega), Int.add_zero]
theorem bg_all {v : List Int} (hv : IsW v) (hn : v.length ≤ 126) : bg v v.length = (bs v).map wr := by
  refine ext_getD (by simp [bg_len, bs_len]) fun t ht => ?_
  rw [bg_len] at ht
  rw [bg_at hv hn _ _ (Nat.le_refl _) ht, A_over (by omega) _ (by omega) (by omega), A_all (P := pre v) (by omega) (fun c hc => bs_at (by omega)),
    getD_map (by rw [bs_len]; exact ht), bs_at ht, pre_succ ht]
  congr 1; omega

/-- The model's sum: n values from k on. -/
def ad (vs : List Int) (k : Nat) : Nat → Int
  | 0 => 0
  | n + 1 => wr (ad vs k n + vs.getD (k + n) 0)
theorem ad_is (u : List Int) {k : Nat} : ∀ {n : Nat}, k + n ≤ u.length → ad u k n = wr (pre u (k + n) - pre u k)
  | 0, _ => by rw [ad, Nat.add_zero, Int.sub_self]; decide
  | n + 1, h => by
    rw [ad, ad_is u (by omega), wr_wr_add, ← Nat.add_assoc, pre_succ (by omega)]
    congr 1; omega
/-- The model's sums, after m rounds. -/
def sm (v : List Int) : Nat → List Int
  | 0 => []
  | m + 1 => sm v m ++ [ad v (m + 1 - lo (m + 1)) (lo (m + 1))]
theorem sm_len (v : List Int) (m : Nat) : (sm v m).length = m := by
  induction m with
  | zero => rfl
  | succ m ih => simp [sm, ih]
theorem sm_at (v : List Int) : ∀ {m t : Nat}, m ≤ v.length → t < m → (sm v m).getD t 0 = wr (pre v (t + 1) - pre v (t + 1 - lo (t + 1)))
  | m + 1, t, h, ht => by
    by_cases e : t = m
    · subst e
      have hle := lo_le (t + 1)
      rw [sm, List.getD_eq_getElem?_getD, List.getElem?_append_right (by rw [sm_len]; omega)]
      simp [sm_len]
      rw [ad_is v (by omega)]
      congr 2; congr 1; omega
    · rw [sm, List.getD_eq_getElem?_getD, List.getElem?_append_left (by rw [sm_len]; omega), ← List.getD_eq_getElem?_getD, sm_at v (by omega) (by omega)]
theorem sm_all (v : List Int) : sm v v.length = (bs v).map wr := by
  refine ext_getD (by simp [sm_len, bs_len]) fun t ht => ?_
  rw [sm_len] at ht
  rw [sm_at v (Nat.le_refl _) ht, getD_map (by rw [bs_len]; exact ht), bs_at ht]


/-- Values of a tree. -/
def OkM (v : List Int) : Prop := v.length ≤ 64 ∧ ∀ x ∈ v, 0 ≤ x ∧ x ≤ 1000
instance (v : List Int) : Decidable (OkM v) := inferInstanceAs (Decidable (_ ∧ _))
theorem OkM.at {v : List Int} (h : OkM v) (i : Nat) : 0 ≤ v.getD i 0 ∧ v.getD i 0 ≤ 1000 := by
  by_cases hi : i < v.length
  · rw [List.getD_eq_getElem?_getD, List.getElem?_eq_getElem hi]; exact h.2 _ (List.getElem_mem hi)
  · rw [List.getD_eq_getElem?_getD, List.getElem?_eq_none (by omega)]; decide
theorem OkM.isW {v : List Int} (h : OkM v) : IsW v := fun x hx => by have := h.2 x hx; omega
theorem OkM.pre_le {v : List Int} (h : OkM v) : ∀ {t : Nat}, t ≤ v.length → 0 ≤ pre v t ∧ pre v t ≤ 1000 * t
  | 0, _ => by rw [pre_zero]; decide
  | t + 1, ht => by
    have := OkM.pre_le h (t := t) (by omega)
    have := h.at t
    rw [pre_succ (by omega)]; omega
theorem OkM.mono {v : List Int} (h : OkM v) {a : Nat} : ∀ {b : Nat}, a ≤ b → b ≤ v.length → pre v a ≤ pre v b
  | 0, hab, _ => by rw [show a = 0 from by omega]; omega
  | b + 1, hab, hb => by
    by_cases e : a = b + 1
    · rw [e]; omega
    · have := OkM.mono h (a := a) (b := b) (by omega) (by omega)
      have := h.at b
      rw [pre_succ (by omega)]; omega
theorem OkM.wrs {v : List Int} (h : OkM v) : v.map wr = v := by
  refine ext_getD (by simp) fun i hi => ?_
  rw [List.length_map] at hi
  rw [getD_map hi, wr_id]
  have := h.at i; omega
theorem OkM.wbs {v : List Int} (h : OkM v) : (bs v).map wr = bs v := by
  refine ext_getD (by simp) fun i hi => ?_
  rw [List.length_map, bs_len] at hi
  rw [getD_map (by rw [bs_len]; exact hi), bs_at hi, wr_id]
  have h1 := h.pre_le (t := i + 1) (by omega)
  have h2 := h.pre_le (t := i + 1 - lo (i + 1)) (by omega)
  have := h.1
  omega
theorem OkM.bsW {v : List Int} (h : OkM v) : IsW (bs v) := by
  intro x hx
  simp only [bs, List.mem_map, List.mem_range] at hx
  obtain ⟨i, hi, rfl⟩ := hx
  have h1 := h.pre_le (t := i + 1) (by omega)
  have h2 := h.pre_le (t := i + 1 - lo (i + 1)) (by omega)
  have := h.1
  omega

/-- Sums of values. -/
def OkF (S : List Int) : Prop := OkM (vl S)
instance (S : List Int) : Decidable (OkF S) := inferInstanceAs (Decidable (OkM _))
theorem OkF.len {S : List Int} (h : OkF S) : S.length ≤ 64 := by have := h.1; rw [vl_len] at this; exact this
theorem tv_take (S : List Int) : ∀ {m n : Nat}, m ≤ n → (tv S n).take m = tv S m
  | m, 0, h => by rw [show m = 0 from by omega]; rfl
  | m, n + 1, h => by
    by_cases e : m = n + 1
    · subst e; rw [List.take_of_length_le (by rw [tv_len]; omega)]
    · rw [tv, List.take_append_of_le_length (by rw [tv_len]; omega), tv_take S (by omega)]
theorem OkF.true {S : List Int} (h : OkF S) (hS : IsW S) : vl S = tv S S.length := by
  have key : ∀ m ≤ S.length, (tv S m).map wr = tv S m := by
    intro m hm
    induction m with
    | zero => rfl
    | succ m ih =>
      have ih := ih (by omega)
      have ht : (vl S).take m = tv S m := by rw [vl, ← List.map_take, tv_take S (by omega), ih]
      have hp : ∀ t ≤ m, pre (tv S m) t = pre (vl S) t := fun t h => by rw [← ht, pre, pre, List.take_take, Nat.min_eq_left h]
      have hl := h.len
      have hle := lo_le (m + 1)
      have hpo := lo_pos (n := m + 1) (by omega) (by omega)
      have h1 := OkM.pre_le h (t := m) (by rw [vl_len]; omega)
      have h2 := OkM.pre_le h (t := m + 1 - lo (m + 1)) (by rw [vl_len]; omega)
      rw [← hp _ (Nat.le_refl _)] at h1
      rw [← hp _ (by omega)] at h2
      have h3 := hS.at m
      have h4 : (vl S).getD m 0 = wr (S.getD m 0 - (pre (tv S m) m - pre (tv S m) (m + 1 - lo (m + 1)))) := by
        rw [vl, getD_map (by rw [tv_len]; omega)]
        have e1 := tv_take S (m := m + 1) (n := S.length) (by omega)
        have e2 : (tv S S.length).getD m 0 = (tv S (m + 1)).getD m 0 := by
          rw [← e1, List.getD_eq_getElem?_getD, List.getD_eq_getElem?_getD, List.getElem?_take_of_lt (by omega)]
        rw [e2, tv, List.getD_eq_getElem?_getD, List.getElem?_append_right (by rw [tv_len]; omega)]
        simp [tv_len]
      have h5 := OkM.at h m
      rw [tv, List.map_append, ih]
      simp only [List.map_cons, List.map_nil]
      congr 2
      rw [h4] at h5
      revert h5
      unfold wr
      omega
  rw [vl, key _ (Nat.le_refl _)]
theorem OkF.bs {S : List Int} (h : OkF S) (hS : IsW S) : bs (vl S) = S := by rw [h.true hS, bs_tv (by have := h.len; omega)]
theorem OkF.at {S : List Int} (h : OkF S) (hS : IsW S) {i : Nat} (hi : i < S.length) : S.getD i 0 = pre (vl S) (i + 1) - pre (vl S) (i + 1 - lo (i + 1)) := by
  rw [← bs_at (by rw [vl_len]; exact hi), h.bs hS]
theorem vl_bs {v : List Int} (h : OkM v) : vl (bs v) = v := by
  have := h.1
  rw [vl, bs_len, tv_bs (by omega), h.wrs]
theorem okF_bs {v : List Int} (h : OkM v) : OkF (bs v) := by rw [OkF, vl_bs h]; exact h
theorem okM_fv {S : List Int} (hS : IsW S) : OkM (fv S S.length) ↔ OkF S := by
  by_cases hn : S.length ≤ 64
  · rw [fv_all hS (by omega)]; rfl
  · exact ⟨fun h => absurd h.1 (by rw [fv_len]; exact hn), fun h => absurd h.len hn⟩

/-- Values. -/
def valF (S : List Int) : List Int × Bool := if OkF S then (vl S, true) else ([], false)
/-- Sums. -/
def bldF (v : List Int) : List Int × Bool := if OkM v then (bs v, true) else ([], false)

/-- The sums that contain a value, from the index a on. -/
def up (n : Nat) : Nat → Nat → List Nat
  | 0, _ => []
  | f + 1, a => if a < n then a :: up n f (a + lo (a + 1)) else []
/-- The sum with the index t contains the value with the index i. -/
def cov (i t : Nat) : Bool := decide (t + 1 - lo (t + 1) ≤ i) && decide (i ≤ t)
theorem up_dec : ∀ n < 65, ∀ i < n, up n 64 i = (List.range n).filter (cov i) := by decide +kernel
/-- One step: the sum with the index t. -/
def addAt (b : Int) (l : List Int) (t : Nat) : List Int := l.set t (wr (l.getD t 0 + b))
theorem addAt_len (b : Int) (l : List Int) (t : Nat) : (addAt b l t).length = l.length := by simp [addAt]
theorem adds_at (b : Int) : ∀ (u : List Nat) (l : List Int) (t : Nat), u.Nodup → (∀ x ∈ u, x < l.length) → t < l.length →
    (u.foldl (addAt b) l).getD t 0 = if t ∈ u then wr (l.getD t 0 + b) else l.getD t 0
  | [], l, t, _, _, _ => by simp
  | x :: u, l, t, hd, hu, ht => by
    have hd' := List.nodup_cons.1 hd
    rw [List.foldl_cons, adds_at b u _ t hd'.2 (fun y hy => by rw [addAt_len]; exact hu y (by simp [hy])) (by rw [addAt_len]; exact ht)]
    have e : (addAt b l x).getD t 0 = if x = t then wr (l.getD x 0 + b) else l.getD t 0 := getD_set l x t _ (hu x (by simp))
    rw [e]
    by_cases h : x = t
    · subst h; simp [hd'.1]
    · have h' : ¬ t = x := fun e => h e.symm
      simp [h, h']
theorem adds_len (b : Int) : ∀ (u : List Nat) (l : List Int), (u.foldl (addAt b) l).length = l.length
  | [], l => rfl
  | x :: u, l => by rw [List.foldl_cons, adds_len b u, addAt_len]

theorem pre_set {v : List Int} {i : Nat} (hi : i < v.length) (b : Int) : ∀ {t : Nat}, t ≤ v.length → pre (v.set i (v.getD i 0 + b)) t = pre v t + if i < t then b else 0
  | 0, _ => by simp [pre_zero]
  | t + 1, h => by
    rw [pre_succ (by rw [List.length_set]; omega), pre_set hi b (by omega), pre_succ (by omega), getD_set _ _ _ _ hi]
    by_cases e : i = t
    · subst e; simp; omega
    · by_cases e2 : i < t
      · simp [e, e2, show i < t + 1 from by omega]; omega
      · simp [e, e2, show ¬ i < t + 1 from by omega]

/-- The number of sums that contain the value. -/
def nds (n i : Nat) : Nat := ((List.range n).filter (cov i)).length
theorem up_bs {v : List Int} (h : OkM v) {i : Nat} (hi : i < v.length) {b : Int} (hb : OkM (v.set i (v.getD i 0 + b))) :
    (up v.length 64 i).foldl (addAt b) (bs v) = bs (v.set i (v.getD i 0 + b)) := by
  have hl := h.1
  refine ext_getD (by rw [adds_len, bs_len, bs_len, List.length_set]) fun t ht => ?_
  rw [adds_len, bs_len] at ht
  rw [up_dec _ (by omega) _ hi, adds_at _ _ _ _ (List.Pairwise.filter _ List.nodup_range) (fun x hx => by rw [bs_len]; simp at hx; exact hx.1) (by rw [bs_len]; exact ht),
    bs_at (v := v) ht, bs_at (v := v.set i (v.getD i 0 + b)) (by rw [List.length_set]; exact ht), pre_set hi b (by omega), pre_set hi b (by omega)]
  have h3 := (hb.bsW).at t
  rw [bs_at (by rw [List.length_set]; exact ht), pre_set hi b (by omega), pre_set hi b (by omega)] at h3
  have hpo := lo_pos (n := t + 1) (by omega) (by omega)
  have hm : (t ∈ (List.range v.length).filter (cov i)) ↔ (t + 1 - lo (t + 1) ≤ i ∧ i ≤ t) := by
    simp [cov, ht]
  by_cases c : t + 1 - lo (t + 1) ≤ i ∧ i ≤ t
  · rw [if_pos (hm.2 c), wr_id]
    · rw [if_pos (show i < t + 1 by omega), if_neg (show ¬ i < t + 1 - lo (t + 1) by omega)]; omega
    · rw [if_pos (show i < t + 1 by omega), if_neg (show ¬ i < t + 1 - lo (t + 1) by omega)] at h3; omega
  · rw [if_neg (fun hh => c (hm.1 hh))]
    by_cases c1 : i < t + 1 - lo (t + 1)
    · rw [if_pos (show i < t + 1 by omega), if_pos c1]; omega
    · rw [if_neg (show ¬ i < t + 1 by omega), if_neg c1]; omega
/-- An addition. -/
def addF (S : List Int) (i b : Int) : List Int × Int × Bool :=
  if OkF S ∧ (0 ≤ i ∧ i < S.length) ∧ (0 ≤ (vl S).getD i.toNat 0 + b ∧ (vl S).getD i.toNat 0 + b ≤ 1000) then
    (bs ((vl S).set i.toNat ((vl S).getD i.toNat 0 + b)), (nds S.length i.toNat : Int), true) else ([], 0, false)
theorem OkM.set {v : List Int} (h : OkM v) (i : Nat) {x : Int} (hx : 0 ≤ x ∧ x ≤ 1000) : OkM (v.set i x) :=
  ⟨by rw [List.length_set]; exact h.1, fun y hy => by
    rcases List.mem_or_eq_of_mem_set hy with h1 | h1
    · exact h.2 y h1
    · rw [h1]; exact hx⟩
theorem up_F {S : List Int} (h : OkF S) (hS : IsW S) {i : Nat} (hi : i < S.length) {b : Int} (hb : 0 ≤ (vl S).getD i 0 + b ∧ (vl S).getD i 0 + b ≤ 1000) :
    (up S.length 64 i).foldl (addAt b) S = bs ((vl S).set i ((vl S).getD i 0 + b)) ∧ (up S.length 64 i).length = nds S.length i := by
  have hl := h.len
  refine ⟨?_, ?_⟩
  · have := up_bs h (i := i) (by rw [vl_len]; exact hi) (b := b) (OkM.set h i hb)
    rw [vl_len, h.bs hS] at this
    exact this
  · rw [up_dec _ (by omega) _ hi, nds]

/-- A prefix sum, from n on down, and the number of the sums used. -/
def pw (S : List Int) (n : Nat) (s : Int) : Int :=
  if _h : 1 ≤ n ∧ 1 ≤ lo n then pw S (n - lo n) (wr (s + S.getD (n - 1) 0)) else s
termination_by n
decreasing_by all_goals omega
def cf : Nat → Nat → Nat
  | 0, _ => 0
  | f + 1, n => if n = 0 then 0 else cf f (n - lo n) + 1
def cw (n : Nat) : Nat := cf n n
theorem pw_step {S : List Int} {n : Nat} (s : Int) (h : 1 ≤ n) (h' : n ≤ 127) : pw S n s = pw S (n - lo n) (wr (s + S.getD (n - 1) 0)) := by
  rw [pw, dif_pos ⟨h, lo_pos h h'⟩]
theorem pw_end {S : List Int} (s : Int) : pw S 0 s = s := by rw [pw, dif_neg (by omega)]
theorem cf_any : ∀ (n f g : Nat), n ≤ 127 → n ≤ f → n ≤ g → cf f n = cf g n := by
  intro n
  induction n using Nat.strongRecOn with
  | _ n ih =>
    intro f g h hf hg
    match f, g, hf, hg with
    | 0, 0, _, _ => rfl
    | 0, g + 1, hf, _ => rw [show n = 0 from by omega]; simp [cf]
    | f + 1, 0, _, hg => rw [show n = 0 from by omega]; simp [cf]
    | f + 1, g + 1, hf, hg =>
      rw [cf, cf]
      by_cases h0 : n = 0
      · rw [if_pos h0, if_pos h0]
      · have hp := lo_pos (n := n) (by omega) h
        rw [if_neg h0, if_neg h0, ih (n - lo n) (by omega) f g (by omega) (by omega) (by omega)]
theorem cw_zero : cw 0 = 0 := rfl
theorem cw_step {n : Nat} (h : 1 ≤ n) (h' : n ≤ 127) : cw n = cw (n - lo n) + 1 := by
  obtain ⟨m, rfl⟩ : ∃ m, n = m + 1 := ⟨n - 1, by omega⟩
  have hp := lo_pos (n := m + 1) h h'
  rw [cw, cf, if_neg (by omega), cw, cf_any (m + 1 - lo (m + 1)) m (m + 1 - lo (m + 1)) (by omega) (by omega) (by omega)]
theorem cw_le_dec : ∀ n < 65, cw n ≤ 7 := by decide +kernel
theorem pw_pre {S : List Int} (h : OkF S) (hS : IsW S) : ∀ (n : Nat) (s : Int), n ≤ S.length → 0 ≤ s → s + pre (vl S) n ≤ 64000 → pw S n s = s + pre (vl S) n := by
  intro n
  induction n using Nat.strongRecOn with
  | _ n ih =>
    intro s hn h0 h1
    have hl := h.len
    by_cases hz : n = 0
    · subst hz; rw [pw_end, pre_zero]; omega
    · have hp := lo_pos (n := n) (by omega) (by omega)
      have h2 := OkM.pre_le h (t := n - lo n) (by rw [vl_len]; omega)
      have h3 := OkM.mono h (a := n - lo n) (b := n) (by omega) (by rw [vl_len]; omega)
      have h4 := h.at hS (i := n - 1) (by omega)
      rw [show n - 1 + 1 = n from by omega] at h4
      have h5 : wr (s + S.getD (n - 1) 0) = s + (pre (vl S) n - pre (vl S) (n - lo n)) := by rw [h4, wr_id]; omega
      rw [pw_step s (by omega) (by omega), h5, ih (n - lo n) (by omega) _ (by omega) (by omega) (by omega)]
      omega
theorem pw_all {S : List Int} (h : OkF S) (hS : IsW S) {n : Nat} (hn : n ≤ S.length) : pw S n 0 = pre (vl S) n := by
  have h1 := OkM.pre_le h (t := n) (by rw [vl_len]; exact hn)
  have hl := h.len
  rw [pw_pre h hS n 0 hn (Int.le_refl _) (by omega), Int.zero_add]

/-- Prefixes. -/
def preF (S : List Int) (n : Int) : Int × Int × Bool :=
  if OkF S ∧ 0 ≤ n ∧ n ≤ S.length then (pre (vl S) n.toNat, (cw n.toNat : Int), true) else (0, 0, false)

/-- The first index, from i on, whose prefix exceeds k. -/
def sc (v : List Int) (k : Int) : Nat → Nat → Nat
  | 0, i => i
  | f + 1, i => if k < pre v (i + 1) then i else sc v k f (i + 1)
def sel (v : List Int) (k : Int) : Nat := sc v k v.length 0
theorem sc_is {v : List Int} (h : OkM v) {k : Int} {r : Nat} (hr : r < v.length) (h1 : pre v r ≤ k) (h2 : k < pre v (r + 1)) : ∀ (f i : Nat), i ≤ r → r < i + f → sc v k f i = r
  | 0, i, hi, hf => by omega
  | f + 1, i, hi, hf => by
    rw [sc]
    by_cases e : i = r
    · subst e; rw [if_pos h2]
    · have := h.mono (a := i + 1) (b := r) (by omega) (by omega)
      rw [if_neg (by omega), sc_is h hr h1 h2 f (i + 1) (by omega) (by omega)]
theorem sel_is {v : List Int} (h : OkM v) {k : Int} {r : Nat} (hr : r < v.length) (h1 : pre v r ≤ k) (h2 : k < pre v (r + 1)) : sel v k = r :=
  sc_is h hr h1 h2 _ _ (Nat.zero_le _) (by omega)
/-- Every rank has its index. -/
theorem sel_ex {v : List Int} {k : Int} (h0 : 0 ≤ k) : ∀ {n : Nat}, n ≤ v.length → k < pre v n → ∃ r, r < n ∧ pre v r ≤ k ∧ k < pre v (r + 1)
  | 0, _, h => by rw [pre_zero] at h; omega
  | n + 1, hn, h => by
    by_cases c : k < pre v n
    · obtain ⟨r, h1, h2⟩ := sel_ex h0 (by omega) c
      exact ⟨r, by omega, h2⟩
    · exact ⟨n, by omega, by omega, h⟩
theorem sel_spec {v : List Int} (h : OkM v) {k : Int} (h0 : 0 ≤ k) (hk : k < pre v v.length) : sel v k < v.length ∧ pre v (sel v k) ≤ k ∧ k < pre v (sel v k + 1) := by
  obtain ⟨r, h1, h2, h3⟩ := sel_ex h0 (Nat.le_refl _) hk
  rw [sel_is h h1 h2 h3]
  exact ⟨h1, h2, h3⟩

theorem lo_half_dec : ∀ s < 7, ∀ i < 128, i % 2 ^ (s + 1) = 0 → lo (i + 2 ^ s) = 2 ^ s := by decide +kernel
/-- The descent: s more digits. -/
def ds (S : List Int) : Nat → Nat → Int → Nat
  | 0, i, _ => i
  | s + 1, i, k => if i + 2 ^ s ≤ S.length ∧ S.getD (i + 2 ^ s - 1) 0 ≤ k then ds S s (i + 2 ^ s) (k - S.getD (i + 2 ^ s - 1) 0) else ds S s i k
theorem ds_is {S : List Int} (h : OkF S) (hS : IsW S) {k0 : Int} {r : Nat} (hr : r < S.length) (h1 : pre (vl S) r ≤ k0) (h2 : k0 < pre (vl S) (r + 1)) :
    ∀ (s i : Nat), s ≤ 7 → i % 2 ^ s = 0 → i ≤ r → r < i + 2 ^ s → ds S s i (k0 - pre (vl S) i) = r
  | 0, i, _, _, h3, h4 => by rw [ds]; simp at h4; omega
  | s + 1, i, hs, hi, h3, h4 => by
    have hl := h.len
    have h7 : (2 : Nat) ^ (s + 1) = 2 ^ s + 2 ^ s := by rw [Nat.pow_succ]; omega
    have h8 : 1 ≤ 2 ^ s := Nat.one_le_two_pow
    have h9 : i % 2 ^ s = 0 := by
      have : 2 ^ s ∣ i := Nat.dvd_trans ⟨2, by omega⟩ (Nat.dvd_of_mod_eq_zero hi)
      exact Nat.mod_eq_zero_of_dvd this
    rw [ds]
    by_cases c : i + 2 ^ s ≤ S.length
    · have hlo := lo_half_dec s (by omega) i (by omega) hi
      have e := h.at hS (i := i + 2 ^ s - 1) (by omega)
      rw [show i + 2 ^ s - 1 + 1 = i + 2 ^ s from by omega, hlo, show i + 2 ^ s - 2 ^ s = i from by omega] at e
      by_cases c2 : S.getD (i + 2 ^ s - 1) 0 ≤ k0 - pre (vl S) i
      · rw [if_pos ⟨c, c2⟩, show k0 - pre (vl S) i - S.getD (i + 2 ^ s - 1) 0 = k0 - pre (vl S) (i + 2 ^ s) from by omega]
        refine ds_is h hS hr h1 h2 s (i + 2 ^ s) (by omega) (by rw [Nat.add_mod_right]; exact h9) ?_ (by omega)
        by_cases c3 : r < i + 2 ^ s
        · have := OkM.mono h (a := r + 1) (b := i + 2 ^ s) (by omega) (by rw [vl_len]; omega)
          omega
        · omega
      · rw [if_neg (fun hh => c2 hh.2)]
        refine ds_is h hS hr h1 h2 s i (by omega) h9 h3 ?_
        by_cases c3 : r < i + 2 ^ s
        · exact c3
        · have := OkM.mono h (a := i + 2 ^ s) (b := r) (by omega) (by rw [vl_len]; omega)
          omega
    · rw [if_neg (fun hh => c hh.1)]
      exact ds_is h hS hr h1 h2 s i (by omega) h9 h3 (by omega)
theorem ds_sel {S : List Int} (h : OkF S) (hS : IsW S) {k : Int} (h0 : 0 ≤ k) (hk : k < pre (vl S) S.length) {s : Nat} (hs : s ≤ 7) (hn : S.length ≤ 2 ^ s) : ds S s 0 k = sel (vl S) k := by
  obtain ⟨h1, h2, h3⟩ := sel_spec h h0 (by rw [vl_len]; exact hk)
  rw [vl_len] at h1
  have := ds_is h hS h1 h2 h3 s 0 hs (Nat.zero_mod _) (by omega) (by omega)
  rwa [pre_zero, Int.sub_zero] at this
/-- The element of a rank. -/
def selF (S : List Int) (k : Int) : Int × Bool :=
  if OkF S ∧ 0 ≤ k ∧ k < pre (vl S) S.length then ((sel (vl S) k : Int), true) else (0, false)
/-- The model's search: all prefixes are small, or one is not. -/
theorem sc_no {v : List Int} (h : OkM v) {k : Int} (hk : ¬ k < pre v v.length) {i : Nat} (hi : i < v.length) : ¬ k < pre v (i + 1) := by
  have := h.mono (a := i + 1) (b := v.length) (by omega) (Nat.le_refl _)
  omega

end Fw
theorem Fw.wr_def (x : Int) : IntKind.i64.wrap x = Fw.wr x := IntKind.wrap_i64 x
/-- The mask, as the machine finds it. -/
theorem Fw.lo_mask {n : Nat} (h0 : 1 ≤ n) (h : n < 9223372036854775808) : (BitVec.ofInt 64 (n : Int) &&& BitVec.ofInt 64 (-(n : Int))).toNat = Fw.lo n := by
  rw [BitVec.toNat_and, BitVec.toNat_ofInt, BitVec.toNat_ofInt, Fw.lo]
  congr 1 <;> omega

end Go.Proofs.Ytgfdpjmhdijdiaa
