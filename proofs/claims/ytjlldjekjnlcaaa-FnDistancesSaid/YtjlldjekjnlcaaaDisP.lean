/- The distances of permutations: the metric, and the footrule between the distance and twice it. Plain lists. -/
import Derived.Test.YtjlldjekjnlcaaaInvP
namespace Go.Proofs.Ytjlldjekjnlcaaa
namespace Iv
open P

def bn (b : Bool) : Nat := if b = true then 1 else 0
/-- The sum over a list. -/
def sm {α : Type} (f : α → Nat) (l : List α) : Nat := (l.map f).sum
theorem sm_cons {α : Type} (f : α → Nat) (x : α) (l : List α) : sm f (x :: l) = f x + sm f l := by simp [sm]
theorem sm_add {α : Type} (f g : α → Nat) : ∀ l : List α, sm (fun a => f a + g a) l = sm f l + sm g l
  | [] => rfl
  | x :: l => by rw [sm_cons, sm_cons, sm_cons, sm_add f g l]; omega
theorem sm_le {α : Type} {f g : α → Nat} : ∀ {l : List α}, (∀ a ∈ l, f a ≤ g a) → sm f l ≤ sm g l
  | [], _ => Nat.le_refl _
  | x :: l, h => by
    rw [sm_cons, sm_cons]
    have := h x List.mem_cons_self
    have := sm_le (l := l) (fun a ha => h a (List.mem_cons_of_mem _ ha))
    omega
theorem sm_congr {α : Type} {f g : α → Nat} {l : List α} (h : ∀ a ∈ l, f a = g a) : sm f l = sm g l :=
  Nat.le_antisymm (sm_le fun a ha => Nat.le_of_eq (h a ha)) (sm_le fun a ha => Nat.le_of_eq (h a ha).symm)
theorem sm_count {α : Type} (p : α → Bool) : ∀ l : List α, sm (fun a => bn (p a)) l = l.countP p
  | [] => rfl
  | x :: l => by rw [sm_cons, sm_count p l, List.countP_cons]; unfold bn; omega
theorem count_cons {α : Type} (p : α → Bool) (x : α) (l : List α) : (x :: l).countP p = bn (p x) + l.countP p := by
  rw [List.countP_cons]; unfold bn; omega
theorem sm_zero {α : Type} : ∀ l : List α, sm (fun _ : α => 0) l = 0
  | [] => rfl
  | _ :: l => by rw [sm_cons, sm_zero l]
/-- Sums over pairs, in either order. -/
theorem sm_swap {α β : Type} (g : α → β → Bool) (m : List β) : ∀ l : List α, sm (fun a => m.countP (g a)) l = sm (fun b => l.countP (fun a => g a b)) m
  | [] => (sm_zero m).symm
  | x :: l => by
    rw [sm_cons, sm_swap g m l]
    rw [sm_congr (f := fun b => (x :: l).countP (fun a => g a b)) (g := fun b => bn (g x b) + l.countP (fun a => g a b)) (fun b _ => count_cons _ x l), sm_add, sm_count]
/-- Pairs counted by either of their orders. -/
theorem sm_pairs {α : Type} {f g : α → α → Bool} : ∀ {l : List α}, l.Pairwise (fun a b => bn (f a b) = bn (g a b) + bn (g b a)) → (∀ a ∈ l, g a a = false) → sm (fun a => l.countP (g a)) l = cp f l
  | [], _, _ => rfl
  | x :: l, h, h0 => by
    obtain ⟨h1, h2⟩ := List.pairwise_cons.1 h
    have ih := sm_pairs h2 (fun a ha => h0 a (List.mem_cons_of_mem _ ha))
    rw [sm_cons, count_cons, h0 x List.mem_cons_self, cp_cons, ← ih]
    rw [sm_congr (f := fun a => (x :: l).countP (g a)) (g := fun a => bn (g a x) + l.countP (g a)) (fun a _ => count_cons _ x l), sm_add, sm_count]
    have e : l.countP (f x) = l.countP (g x) + l.countP (fun a => g a x) := by
      rw [← sm_count, ← sm_count, ← sm_count, ← sm_add]
      exact sm_congr h1
    rw [e]; simp [bn]; omega
theorem sm_twice {α : Type} {f : α → α → Bool} : ∀ {l : List α}, l.Pairwise (fun a b => f a b = f b a) → (∀ a ∈ l, f a a = false) → sm (fun a => l.countP (f a)) l = 2 * cp f l
  | [], _, _ => rfl
  | x :: l, h, h0 => by
    obtain ⟨h1, h2⟩ := List.pairwise_cons.1 h
    have ih := sm_twice h2 (fun a ha => h0 a (List.mem_cons_of_mem _ ha))
    rw [sm_cons, count_cons, h0 x List.mem_cons_self, cp_cons]
    rw [sm_congr (f := fun a => (x :: l).countP (f a)) (g := fun a => bn (f x a) + l.countP (f a)) (fun a ha => by rw [count_cons, h1 a ha]), sm_add, sm_count, ih]
    simp [bn]; omega

/-- Numbers between two others, all different. -/
theorem few_between {l : List Int} {lo hi : Int} (hn : l.Nodup) (h : ∀ y ∈ l, lo < y ∧ y ≤ hi) : l.length ≤ (hi - lo).toNat := by
  have h1 : (l.map fun y => (y - lo - 1).toNat).Nodup := by
    refine List.pairwise_map.2 (hn.imp_of_mem fun {a b} ha hb hab e => hab ?_)
    have := h a ha; have := h b hb; omega
  have h2 := length_le_of_small (n := (hi - lo).toNat) h1 (fun j hj => by
    obtain ⟨y, hy, rfl⟩ := List.mem_map.1 hj
    have := h y hy; omega)
  simpa using h2

/-- All pairs of ranks differ in both. -/
def Apart (z : List (Int × Int)) : Prop := z.Pairwise fun a b => a.1 ≠ b.1 ∧ a.2 ≠ b.2
theorem zip_apart : ∀ {p q : List Int}, p.Nodup → q.Nodup → Apart (p.zip q)
  | [], _, _, _ => by simp [Apart]
  | _ :: _, [], _, _ => by simp [Apart]
  | x :: p, y :: q, hp, hq => by
    obtain ⟨h1, h2⟩ := List.nodup_cons.1 hp
    obtain ⟨h3, h4⟩ := List.nodup_cons.1 hq
    rw [List.zip_cons_cons]
    refine List.pairwise_cons.2 ⟨?_, zip_apart h2 h4⟩
    rintro ⟨a, b⟩ hab
    have := List.of_mem_zip hab
    refine ⟨fun e => h1 ?_, fun e => h3 ?_⟩
    · have e' : x = a := e
      rw [e']; exact this.1
    · have e' : y = b := e
      rw [e']; exact this.2
theorem zip_fst : ∀ {p q : List Int}, p.length = q.length → (p.zip q).map Prod.fst = p
  | [], [], _ => rfl
  | x :: p, y :: q, h => by rw [List.zip_cons_cons, List.map_cons, zip_fst (by simpa using h)]
theorem zip_snd : ∀ {p q : List Int}, p.length = q.length → (p.zip q).map Prod.snd = q
  | [], [], _ => rfl
  | x :: p, y :: q, h => by rw [List.zip_cons_cons, List.map_cons, zip_snd (by simpa using h)]
theorem zip_swap : ∀ {p q : List Int}, q.zip p = (p.zip q).map Prod.swap
  | [], [] => rfl
  | [], _ :: _ => rfl
  | _ :: _, [] => rfl
  | x :: p, y :: q => by rw [List.zip_cons_cons, List.zip_cons_cons, List.map_cons, zip_swap (p := p)]; rfl

theorem kd_symm (p q : List Int) : kd q p = kd p q := by
  unfold kd
  rw [zip_swap, cp_map]
  exact cp_congr fun a _ b _ => by unfold dis; exact Bool.xor_comm _ _

/-- A number of a permutation is how many are less. -/
theorem iota_count (n : Nat) : ∀ x : Nat, x ≤ n → (iota n).countP (fun y => decide (y < (x : Int))) = x := by
  induction n with
  | zero => intro x hx; obtain rfl : x = 0 := by omega
            rfl
  | succ n ih =>
    intro x hx
    rw [iota_succ, List.countP_append]
    by_cases h : x ≤ n
    · rw [ih x h]; simp; omega
    · obtain rfl : x = n + 1 := by omega
      have h1 : (iota n).countP (fun y => decide (y < ((n + 1 : Nat) : Int))) = (iota n).countP (fun y => decide (y < ((n : Nat) : Int))) :=
        List.countP_congr fun y hy => by have := (iota_mem.1 hy); simp; omega
      rw [h1, ih n (Nat.le_refl _)]; simp; omega
theorem val_count {p : List Int} (h : OkP p) {x : Int} (h0 : 0 ≤ x) (h1 : x < p.length) : ((p.countP (fun y => decide (y < x)) : Nat) : Int) = x := by
  obtain ⟨k, rfl⟩ : ∃ k : Nat, x = k := ⟨x.toNat, by omega⟩
  rw [h.perm.countP_eq, iota_count _ k (by omega)]
theorem count_near {α : Type} (f g : α → Bool) : ∀ l : List α, (((l.countP f : Nat) : Int) - (l.countP g : Nat)).natAbs ≤ l.countP (fun a => f a != g a)
  | [] => by simp
  | x :: l => by
    have := count_near f g l
    rw [count_cons, count_cons, count_cons]
    cases hf : f x <;> cases hg : g x <;> simp [bn] <;> omega

/-- The footrule is at most twice the distance. -/
theorem ff_twice {p q : List Int} (h : OkB p q) : ff p q ≤ 2 * kd p q := by
  obtain ⟨hp, hq, hl⟩ := h
  have hz := zip_apart hp.2.2 hq.2.2
  have hs : ∀ a ∈ p.zip q, 0 ≤ a.1 ∧ a.1 < p.length ∧ 0 ≤ a.2 ∧ a.2 < p.length := zip_small ⟨hp, hq, hl⟩
  unfold kd ff
  have e1 : fz (p.zip q) = sm (fun a => (a.1 - a.2).natAbs) (p.zip q) := rfl
  have ef : ∀ x : Int, (p.zip q).countP (fun b => decide (b.1 < x)) = p.countP (fun y => decide (y < x)) := fun x => by
    conv => rhs; rw [← zip_fst hl]
    rw [List.countP_map]; rfl
  have es : ∀ x : Int, (p.zip q).countP (fun b => decide (b.2 < x)) = q.countP (fun y => decide (y < x)) := fun x => by
    conv => rhs; rw [← zip_snd hl]
    rw [List.countP_map]; rfl
  rw [e1, ← sm_twice (f := dis) (hz.imp fun {a b} hab => ?_) (fun a _ => by simp [dis])]
  · refine sm_le fun a ha => ?_
    have h1 := hs a ha
    have h2 := val_count hp h1.1 h1.2.1
    have h3 := val_count hq h1.2.2.1 (by omega)
    rw [← ef] at h2
    rw [← es] at h3
    have h4 := count_near (fun b : Int × Int => decide (b.1 < a.1)) (fun b : Int × Int => decide (b.2 < a.2)) (p.zip q)
    rw [h2, h3] at h4
    refine Nat.le_trans h4 (Nat.le_of_eq ?_)
    refine List.countP_congr fun b hb => ?_
    have hab : b = a ∨ (b.1 ≠ a.1 ∧ b.2 ≠ a.2) := by
      by_cases e : b = a
      · exact .inl e
      · right
        obtain ⟨i, hi, rfl⟩ := List.getElem_of_mem ha
        obtain ⟨k, hk, rfl⟩ := List.getElem_of_mem hb
        have hik : i ≠ k := fun e2 => e (by subst e2; rfl)
        rcases Nat.lt_or_gt_of_ne hik with hlt | hlt
        · have := List.pairwise_iff_getElem.1 hz i k hi hk hlt; exact ⟨Ne.symm this.1, Ne.symm this.2⟩
        · exact List.pairwise_iff_getElem.1 hz k i hk hi hlt
    unfold dis
    rcases hab with rfl | ⟨n1, n2⟩
    · simp
    · have e1 : decide (a.1 < b.1) = !decide (b.1 < a.1) := by by_cases h : a.1 < b.1 <;> simp [h] <;> omega
      have e2 : decide (a.2 < b.2) = !decide (b.2 < a.2) := by by_cases h : a.2 < b.2 <;> simp [h] <;> omega
      rw [e1, e2]; cases decide (b.1 < a.1) <;> cases decide (b.2 < a.2) <;> simp
  · unfold dis
    have e1 : decide (a.1 < b.1) = !decide (b.1 < a.1) := by by_cases h : a.1 < b.1 <;> simp [h] <;> omega
    have e2 : decide (a.2 < b.2) = !decide (b.2 < a.2) := by by_cases h : a.2 < b.2 <;> simp [h] <;> omega
    rw [e1, e2]; cases decide (b.1 < a.1) <;> cases decide (b.2 < a.2) <;> rfl

/-- a stands before b in q and behind it in p. -/
def dir (a b : Int × Int) : Bool := decide (a.2 < b.2) && decide (b.1 < a.1)
def dir1 (a b : Int × Int) : Bool := decide (a.2 < b.2) && decide (b.2 ≤ a.1)
def dir2 (a b : Int × Int) : Bool := decide (b.1 < a.1) && decide (a.1 < b.2)
theorem few_of {z : List (Int × Int)} (f : Int × Int → Int) (hf : (z.map f).Nodup) (t : Int × Int → Bool) {lo hi : Int} (ht : ∀ b ∈ z, t b = true → lo < f b ∧ f b ≤ hi) : z.countP t ≤ (hi - lo).toNat := by
  rw [List.countP_eq_length_filter, ← List.length_map (f := f)]
  refine few_between (hf.sublist (List.filter_sublist.map f)) fun y hy => ?_
  obtain ⟨b, hb, rfl⟩ := List.mem_map.1 hy
  exact ht b (List.mem_filter.1 hb).1 (List.mem_filter.1 hb).2
/-- The distance is at most the footrule. -/
theorem kd_foot {p q : List Int} (h : OkB p q) : kd p q ≤ ff p q := by
  obtain ⟨hp, hq, hl⟩ := h
  have hz := zip_apart hp.2.2 hq.2.2
  have h1 : ((p.zip q).map Prod.fst).Nodup := by rw [zip_fst hl]; exact hp.2.2
  have h2 : ((p.zip q).map Prod.snd).Nodup := by rw [zip_snd hl]; exact hq.2.2
  unfold kd ff
  rw [← sm_pairs (g := dir) (f := dis) (hz.imp fun {a b} hab => ?_) (fun a _ => by simp [dir])]
  · have e1 : sm (fun a => (p.zip q).countP (dir a)) (p.zip q) ≤ sm (fun a => (p.zip q).countP (dir1 a)) (p.zip q) + sm (fun a => (p.zip q).countP (dir2 a)) (p.zip q) := by
      rw [← sm_add]
      refine sm_le fun a _ => ?_
      generalize p.zip q = z
      induction z with
      | nil => simp
      | cons b z ih =>
        rw [count_cons, count_cons, count_cons]
        have : bn (dir a b) ≤ bn (dir1 a b) + bn (dir2 a b) := by
          unfold bn dir dir1 dir2
          have e : decide (a.1 < b.2) = !decide (b.2 ≤ a.1) := by by_cases h : b.2 ≤ a.1 <;> simp [h] <;> omega
          rw [e]
          cases decide (a.2 < b.2) <;> cases decide (b.1 < a.1) <;> cases decide (b.2 ≤ a.1) <;> simp
        omega
    have e2 : sm (fun a => (p.zip q).countP (dir1 a)) (p.zip q) ≤ sm (fun a => (a.1 - a.2).toNat) (p.zip q) :=
      sm_le fun a _ => few_of Prod.snd h2 _ fun b _ hb => by unfold dir1 at hb; simp at hb; exact hb
    have e3 : sm (fun a => (p.zip q).countP (dir2 a)) (p.zip q) ≤ sm (fun a => (a.2 - a.1).toNat) (p.zip q) := by
      rw [sm_swap]
      exact sm_le fun b _ => few_of Prod.fst h1 _ fun a _ ha => by unfold dir2 at ha; simp at ha; omega
    have e4 : fz (p.zip q) = sm (fun a => (a.1 - a.2).toNat) (p.zip q) + sm (fun a => (a.2 - a.1).toNat) (p.zip q) := by
      rw [← sm_add]; exact sm_congr fun a _ => by omega
    omega
  · obtain ⟨n1, n2⟩ := hab
    unfold bn dis dir
    have e1 : decide (b.1 < a.1) = !decide (a.1 < b.1) := by by_cases h : a.1 < b.1 <;> simp [h] <;> omega
    have e2 : decide (b.2 < a.2) = !decide (a.2 < b.2) := by by_cases h : a.2 < b.2 <;> simp [h] <;> omega
    rw [e1, e2]; cases decide (a.1 < b.1) <;> cases decide (a.2 < b.2) <;> simp

/-- The triangle. -/
theorem zip_three : ∀ {p q r : List Int}, p.length = q.length → q.length = r.length → ∃ z : List (Int × Int × Int),
    p.zip q = z.map (fun a => (a.1, a.2.1)) ∧ q.zip r = z.map (fun a => (a.2.1, a.2.2)) ∧ p.zip r = z.map (fun a => (a.1, a.2.2))
  | [], [], [], _, _ => ⟨[], rfl, rfl, rfl⟩
  | x :: p, y :: q, u :: r, h1, h2 => by
    obtain ⟨z, e1, e2, e3⟩ := zip_three (p := p) (q := q) (r := r) (by simpa using h1) (by simpa using h2)
    exact ⟨(x, y, u) :: z, by rw [List.zip_cons_cons, e1]; rfl, by rw [List.zip_cons_cons, e2]; rfl, by rw [List.zip_cons_cons, e3]; rfl⟩
theorem kd_tri {p q r : List Int} (h1 : p.length = q.length) (h2 : q.length = r.length) : kd p r ≤ kd p q + kd q r := by
  obtain ⟨z, e1, e2, e3⟩ := zip_three h1 h2
  unfold kd
  rw [e1, e2, e3, cp_map, cp_map, cp_map]
  refine cp_add (fun a b h => ?_) _
  unfold dis at h ⊢
  simp only at h ⊢
  cases h3 : decide (a.1 < b.1) <;> cases h4 : decide (a.2.1 < b.2.1) <;> cases h5 : decide (a.2.2 < b.2.2) <;> rw [h3, h5] at h <;> simp at h ⊢

/-- The distance is nought of equal ones alone. -/
theorem kd_zero {p q : List Int} (h : OkB p q) : kd p q = 0 ↔ p = q := by
  constructor
  · intro h0
    have h1 := ff_twice h
    have h2 : ff p q = 0 := by omega
    have h3 : ∀ a ∈ p.zip q, a.1 = a.2 := by
      unfold ff fz at h2
      intro a ha
      have := (List.sum_eq_zero_iff_forall_eq_nat.1 h2) _ (List.mem_map.2 ⟨a, ha, rfl⟩)
      omega
    rw [← zip_fst h.2.2]
    conv => rhs; rw [← zip_snd h.2.2]
    exact List.map_congr_left h3
  · rintro rfl
    unfold kd
    clear h
    have : p.zip p = p.map fun x => (x, x) := by
      induction p with
      | nil => rfl
      | cons x p ih => rw [List.zip_cons_cons, ih]; rfl
    rw [this, cp_map, cp_congr (g := fun _ _ => false) (fun a _ b _ => by simp [dis])]
    clear this
    induction p with
    | nil => rfl
    | cons x p ih => rw [cp_cons, ih]; simp

end Iv
end Go.Proofs.Ytjlldjekjnlcaaa
