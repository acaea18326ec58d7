/- The checksum as a plain function on bytes, with its bounds; nothing of the program. -/
namespace Go.Proofs.YtgnmkmnodmlacaaDoor

def ck (l : List UInt8) : Int := l.foldl (fun h c => (41 * h + (c.toNat : Int) + 1) % 999979) 7

theorem ck_nil : ck [] = 7 := rfl

theorem ck_bd (l : List UInt8) : 0 ≤ ck l ∧ ck l < 999979 := by
  unfold ck
  suffices h : ∀ (l : List UInt8) (a : Int), 0 ≤ a → a < 999979 →
      0 ≤ l.foldl (fun h c => (41 * h + (c.toNat : Int) + 1) % 999979) a ∧ l.foldl (fun h c => (41 * h + (c.toNat : Int) + 1) % 999979) a < 999979 from
    h l 7 (by decide) (by decide)
  intro l
  induction l with
  | nil => intro a h0 h1; exact ⟨h0, h1⟩
  | cons c r ih => intro a h0 h1; simp only [List.foldl_cons]; exact ih _ (by omega) (by omega)

theorem ck_snoc (l : List UInt8) (c : UInt8) : ck (l ++ [c]) = (41 * ck l + (c.toNat : Int) + 1) % 999979 := by
  unfold ck; rw [List.foldl_append]; rfl

theorem take_snoc_s (s : ByteArray) (k : Nat) (h : k < s.size) : s.data.toList.take (k + 1) = s.data.toList.take k ++ [s[k]] := by
  rw [List.take_succ_eq_append_getElem (by simpa using h)]; rfl

end Go.Proofs.YtgnmkmnodmlacaaDoor
