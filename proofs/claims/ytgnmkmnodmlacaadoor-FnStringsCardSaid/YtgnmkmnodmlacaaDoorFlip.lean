/- One byte changed in a sealed text: it is refused; a sealed text is opened. Nothing of the program. -/
import Derived.Test.YtgnmkmnodmlacaaDoorVer
namespace Go.Proofs.YtgnmkmnodmlacaaDoor

/-- One step of the checksum. -/
def ckf (h : Int) (c : UInt8) : Int := (41 * h + (c.toNat : Int) + 1) % 999979

theorem ckf_bd (h : Int) (c : UInt8) : 0 ≤ ckf h c ∧ ckf h c < 999979 := by unfold ckf; omega
theorem ckf_state {h h' : Int} (h0 : 0 ≤ h) (h1 : h < 999979) (k0 : 0 ≤ h') (k1 : h' < 999979) {c : UInt8} (e : ckf h c = ckf h' c) : h = h' := by
  unfold ckf at e
  omega
theorem ckf_byte {h : Int} {a c : UInt8} (e : ckf h a = ckf h c) : a = c := by
  unfold ckf at e
  have ha := a.toNat_lt
  have hc := c.toNat_lt
  apply UInt8.toNat_inj.1
  omega

theorem fold_state : ∀ (q : List UInt8) (h h' : Int), 0 ≤ h → h < 999979 → 0 ≤ h' → h' < 999979 → q.foldl ckf h = q.foldl ckf h' → h = h'
  | [], _, _, _, _, _, _, e => e
  | c :: q, h, h', h0, h1, k0, k1, e => by
    have b1 := ckf_bd h c
    have b2 := ckf_bd h' c
    exact ckf_state h0 h1 k0 k1 (fold_state q _ _ b1.1 b1.2 b2.1 b2.2 e)

theorem ck_eq (l : List UInt8) : ck l = l.foldl ckf 7 := rfl

theorem ck_change {p q : List UInt8} {a c : UInt8} (e : ck (p ++ a :: q) = ck (p ++ c :: q)) : a = c := by
  rw [ck_eq, ck_eq, List.foldl_append, List.foldl_append, List.foldl_cons, List.foldl_cons] at e
  have b1 := ckf_bd (p.foldl ckf 7) a
  have b2 := ckf_bd (p.foldl ckf 7) c
  exact ckf_byte (fold_state q _ _ b1.1 b1.2 b2.1 b2.2 e)

theorem mark_at {l D : List UInt8} (h : (35 : UInt8) ∉ l) (hD : allD D) (j : Nat) : (l ++ [35] ++ D)[j]? = some 35 ↔ j = l.length := by
  constructor
  · intro e
    rcases Nat.lt_trichotomy j l.length with hj | hj | hj
    · rw [List.append_assoc, List.getElem?_append_left hj] at e
      exact absurd (List.mem_of_getElem? e) h
    · exact hj
    · rw [List.getElem?_append_right (by simp; omega)] at e
      have := hD _ (List.mem_of_getElem? e)
      have e2 : (35 : UInt8).toNat = 35 := rfl
      omega
  · rintro rfl
    rw [List.append_assoc, List.getElem?_append_right (Nat.le_refl _), Nat.sub_self]; rfl

theorem no_mark {x : ByteArray} (h : idx x 35 x.size = []) : (35 : UInt8) ∉ x.data.toList := by
  intro hm
  obtain ⟨j, hj, e⟩ := List.getElem_of_mem hm
  have hj' : j < x.size := by simpa using hj
  apply idx_nil_none h j hj'
  rw [← Array.getElem?_toList, List.getElem?_eq_getElem hj, e]

theorem sealed_list (x : ByteArray) : (sealed x).data.toList = x.data.toList ++ [35] ++ Lib.itoa (ck x.data.toList) := by unfold sealed sealL; rfl

theorem flip_bad (x : ByteArray) (hx : idx x 35 x.size = []) (k : Nat) (c : UInt8) (hk : k < (sealed x).data.toList.length) (hc : (sealed x).data.toList[k]? ≠ some c) (y : ByteArray) (hy : y.data.toList = (sealed x).data.toList.set k c) : ¬ OkV y := by
  intro hv
  have hv2 := hv.2
  obtain ⟨l, hl⟩ : ∃ l, l = x.data.toList := ⟨_, rfl⟩
  obtain ⟨m, hm⟩ : ∃ m, m = (first y 35).data.toList := ⟨_, rfl⟩
  have hl35 : (35 : UInt8) ∉ l := by rw [hl]; exact no_mark hx
  have hm35 : (35 : UInt8) ∉ m := by rw [hm]; exact no_mark (first_free y 35)
  have hY' : y.data.toList = m ++ [35] ++ Lib.itoa (ck m) := by
    rw [hm, ← sealed_list, hv2]
  rw [sealed_list, ← hl] at hk hc hy
  have hD := (itoa_ck l).1
  have hE := (itoa_ck m).1
  rw [hY'] at hy
  have hU := mark_at hl35 hD
  have hV := mark_at hm35 hE
  by_cases hkl : k = l.length
  · have h35 := (hV m.length).2 rfl
    rw [hy, List.getElem?_set] at h35
    split at h35
    · rename_i hkm
      have h36 : some c = some 35 := by simpa using h35
      have h37 : c = 35 := by simpa using h36
      exact hc (by rw [h37]; exact (hU k).2 hkl)
    · rename_i hkm
      exact hkm (by rw [hkl]; exact ((hU m.length).1 h35).symm)
  · have h35 : ((l ++ [35] ++ Lib.itoa (ck l)).set k c)[l.length]? = some 35 := by
      rw [List.getElem?_set_ne hkl]; exact (hU _).2 rfl
    rw [← hy] at h35
    have hlen : l.length = m.length := (hV _).1 h35
    have ht : m = (l.set k c) := by
      have e := congrArg (List.take l.length) hy
      rw [List.take_set, List.append_assoc, List.append_assoc, List.take_left' hlen.symm, List.take_left' rfl] at e
      exact e
    have hd : Lib.itoa (ck m) = (((l ++ [35] ++ Lib.itoa (ck l)).set k c).drop (l.length + 1)) := by
      have e := congrArg (List.drop (l.length + 1)) hy
      rw [List.drop_left' (by simp [hlen])] at e
      exact e
    rw [List.drop_set] at hd
    by_cases hlt : k < l.length
    · rw [if_pos (by omega), List.drop_left' (by simp)] at hd
      have hck := itoa_inj hd
      rw [ht, List.set_eq_take_append_cons_drop, if_pos hlt] at hck
      have hl2 : l = l.take k ++ l[k] :: l.drop (k + 1) := by rw [← List.drop_eq_getElem_cons hlt, List.take_append_drop]
      have hck2 : ck (l.take k ++ c :: l.drop (k + 1)) = ck (l.take k ++ l[k] :: l.drop (k + 1)) := by rw [← hl2]; exact hck
      have := ck_change hck2
      apply hc
      rw [List.append_assoc, List.getElem?_append_left hlt, List.getElem?_eq_getElem hlt, this]
    · have hml : m = l := by rw [ht, List.set_eq_of_length_le (by omega)]
      rw [hml] at hy
      apply hc
      rw [hy, List.getElem?_set]
      simp only [if_true, if_pos hk]

/-- A sealed text is opened. -/
theorem first_sealed (x : ByteArray) (hx : idx x 35 x.size = []) : first (sealed x) 35 = x := by
  have hs := sealed_size x
  have hl : x.data.toList.length = x.size := Array.length_toList
  have hU := mark_at (no_mark hx) (itoa_ck x.data.toList).1
  have hat : ∀ j, (sealed x).data[j]? = some 35 ↔ j = x.size := fun j => by
    rw [← Array.getElem?_toList, sealed_list, hU j, hl]
  unfold first
  cases hi : idx (sealed x) 35 (sealed x).size with
  | nil => exact absurd ((hat x.size).2 rfl) (idx_nil_none hi x.size (by omega))
  | cons i r =>
    have hm : i ∈ idx (sealed x) 35 (sealed x).size := by rw [hi]; simp
    have : (sealed x).data[i]? = some 35 := by
      unfold idx at hm
      simpa using (List.mem_filter.1 hm).2
    have hi2 := (hat i).1 this
    show (sealed x).extract 0 i = x
    apply ByteArray.ext
    apply Array.toList_inj.1
    rw [Lib.extract_data, sealed_list, hi2]
    simp only [List.drop_zero, Nat.sub_zero]
    rw [List.append_assoc, List.take_left' hl]

theorem okV_sealed {x : ByteArray} (h : OkA x) : OkV (sealed x) ∧ first (sealed x) 35 = x :=
  ⟨⟨h.2.2, by rw [first_sealed x h.2.1]⟩, first_sealed x h.2.1⟩

end Go.Proofs.YtgnmkmnodmlacaaDoor
