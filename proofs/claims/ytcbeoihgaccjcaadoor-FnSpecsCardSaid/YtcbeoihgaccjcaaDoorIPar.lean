/- The program's ParseSpecs, by its contract. -/
import Derived.Test.YtcbeoihgaccjcaaDoorPieces
import Derived.Test.YtcbeoihgaccjcaaDoorKeySpecS
namespace Go.Proofs.YtcbeoihgaccjcaaDoor
open Go.RowKit

abbrev Key4 := Int × Bool × Bool × Bool

theorem strsAt_own' {w : World} {base : Nat} {v : Value} {P : List ByteArray} (hn : 1 ≤ P.length) (h : w.ownsRow base 9 1 v P.length (P.map Value.string)) : ∃ g cap, v = .slice (some ⟨g, 0, none⟩) P.length cap ∧ base ≤ g ∧ P.length ≤ cap ∧ CellRow w g (strs P) := by
  obtain ⟨m, hm⟩ : ∃ m, P.length = m + 1 := ⟨P.length - 1, by omega⟩
  have h2 := h
  rw [hm] at h2
  obtain ⟨g, cap, rfl⟩ := ownsRow_succ h2
  rw [← hm] at h
  obtain ⟨h1, h2, h3⟩ := CellRow.of_own h
  exact ⟨g, cap, by rw [hm], h1, h2, h3⟩

theorem pieces_pos (s : ByteArray) (b : UInt8) : 1 ≤ (pieces s b).length := by unfold pieces; simp
theorem join_mem_le : ∀ (xs : List (List UInt8)) (sep : List UInt8) (x : List UInt8), x ∈ xs → x.length ≤ (Lib.join xs sep).length := by
  intro xs sep
  induction xs with
  | nil => intro x h; simp at h
  | cons y ys ih =>
    intro x h
    cases ys with
    | nil => simp at h; subst h; rw [Lib.join_one]; exact Nat.le_refl _
    | cons z zs =>
      have e : Lib.join (y :: z :: zs) sep = y ++ sep ++ Lib.join (z :: zs) sep := by
        rw [Lib.join_cons, Lib.join_cons]; simp [Lib.joinTail]
      rw [e]
      simp only [List.length_append]
      rcases List.mem_cons.1 h with h | h
      · subst h; omega
      · have := ih x h; omega
theorem pieces_le (s : ByteArray) (b : UInt8) (j : Nat) (x : ByteArray) (h : (pieces s b)[j]? = some x) : x.size ≤ s.size := by
  have := join_mem_le ((pieces s b).map Pc.txt) [b] (Pc.txt x) (List.mem_map.2 ⟨x, List.mem_of_getElem? h, rfl⟩)
  have e : (Pc.txt x).length = x.size := Array.length_toList
  have e2 : s.data.toList.length = s.size := Array.length_toList
  rw [(pieces_join s b).1, e, e2] at this
  exact this
theorem pieces_len (s : ByteArray) (b : UInt8) : (pieces s b).length ≤ s.size + 1 := by
  unfold pieces
  rw [List.length_append, stp_length]
  have := idx_le s b s.size
  simp; omega

/-- What ParseSpecs says. -/
def ParRes (s : ByteArray) (ks : List Key4) (r : Bool) : Prop := (r = true ∧ ParsedOf s ks) ∨ (r = false ∧ ks = [] ∧ ∀ ks', ¬ ParsedOf s ks')
theorem ParRes.uniq {s : ByteArray} {ks ks' : List Key4} {r r' : Bool} (h : ParRes s ks r) (h' : ParRes s ks' r') : ks' = ks ∧ r' = r := by
  rcases h with ⟨e1, h1⟩ | ⟨e1, e2, h1⟩
  · rcases h' with ⟨e1', h1'⟩ | ⟨_, _, h1'⟩
    · exact ⟨((parsed_iff h1'.1).1 h1'.2).uniq ((parsed_iff h1.1).1 h1.2), by rw [e1, e1']⟩
    · exact absurd h1 (h1' ks)
  · rcases h' with ⟨_, h1'⟩ | ⟨e1', e2', _⟩
    · exact absurd h1' (h1 ks')
    · exact ⟨by rw [e2, e2'], by rw [e1, e1']⟩
theorem ParRes.small {s : ByteArray} {ks : List Key4} {r : Bool} (h : ParRes s ks r) : ks.length ≤ 4 := by
  rcases h with ⟨_, h⟩ | ⟨_, h, _⟩
  · exact h.1.1.2
  · rw [h]; simp
def ParC (s : ByteArray) (w : World) (e : Ending) (w' : World) : Prop :=
  ∃ g cap ks r, e = .returned (.tuple #[.slice (some ⟨g, 0, none⟩) ks.length cap, .bool r]) ∧ ks.length ≤ cap ∧ w.heap.size ≤ g ∧ CellRow w' g (keys ks) ∧ ParRes s ks r ∧ Below w.heap.size w w'

theorem parC_none {s : ByteArray} {w W : World} (hb : Below w.heap.size w W) (h : ∀ ks', ¬ ParsedOf s ks') : ParC s w (.returned (.tuple #[.slice (some ⟨W.heap.size, 0, none⟩) 0 0, .bool false])) (W.alloc (.cells #[] 32)) :=
  ⟨W.heap.size, 0, [], false, rfl, Nat.le_refl _, hb.size, CellRow.of_row (heap_alloc_new W _), .inr ⟨rfl, rfl, h⟩, hb.alloc hb.size _⟩

def zeroK : Key4 := (0, false, false, false)

/-- The first k keys are read. -/
structure ReadTo (P : List ByteArray) (ks : List Key4) (k : Nat) : Prop where
  len : ks.length = k
  all : ∀ (j : Nat) x q, P[j]? = some x → ks[j]? = some q → KeyIs x q

theorem ReadTo.snoc {P : List ByteArray} {ks : List Key4} {k : Nat} (h : ReadTo P ks k) {x : ByteArray} {q : Key4} (hx : P[k]? = some x) (hq : KeyIs x q) : ReadTo P (ks ++ [q]) (k + 1) :=
  ⟨by simp [h.len], fun j y p hy hp => by
    by_cases e : j < k
    · rw [List.getElem?_append_left (by rw [h.len]; exact e)] at hp
      exact h.all j y p hy hp
    · by_cases e2 : j = k
      · subst e2
        rw [List.getElem?_append_right (by rw [h.len]; exact Nat.le_refl _), h.len, Nat.sub_self] at hp
        obtain rfl := Option.some.inj hp
        rw [hx] at hy
        obtain rfl := Option.some.inj hy
        exact hq
      · have := (List.getElem?_eq_some_iff.1 hp).1
        rw [List.length_append, h.len] at this
        simp at this; omega⟩

theorem keys_next (ks : List Key4) (q : Key4) (m : Nat) : (((((keys (ks ++ List.replicate (m + 1) zeroK)).set (ks.length * 4) (.int .i64 q.1)).set (ks.length * 4 + 1) (.bool q.2.1)).set (ks.length * 4 + 2) (.bool q.2.2.1)).set (ks.length * 4 + 3) (.bool q.2.2.2)) = keys ((ks ++ [q]) ++ List.replicate m zeroK) := by
  rw [keys_set _ _ _ (by simp)]
  congr 1
  rw [List.set_append_right _ _ (Nat.le_refl _), Nat.sub_self, List.replicate_succ, List.set_cons_zero]
  simp

set_option maxRecDepth 100000 in
theorem split_long (s : ByteArray) (w : World) (hs : s.size ≤ 1048576) (h1 : 4000 < s.size) :
    Calls Tryd.prog 27 #[.string s, .string ⟨#[44]⟩] w fun e w' => e = .returned (.tuple #[.slice (some ⟨w.heap.size + 1, 0, none⟩) 0 0, .bool false]) ∧ Below w.heap.size w w' := by
  have HB := Lib.hid (show Below w.heap.size w ((w.alloc (.cells #[.string s] 9)).alloc (.cells #[] 9)) from ((Below.refl _ w).alloc (Nat.le_refl _) _).alloc (by simp) _)
  have h1z : (4000 : Int) < (s.size : Int) := by omega
  go_enter Tryd.func27, Tryd.ntmps27
  go_wp2
  go_ret2
  exact ⟨rfl, HB.out⟩

set_option maxRecDepth 100000 in
set_option maxHeartbeats 8000000 in
theorem implPar_any (s : ByteArray) (w : World) (hs : s.size ≤ 1048576)
    (hp : ∀ (t : ByteArray) W, t.size ≤ 1048576 → Below w.heap.size w W → Calls Tryd.prog 43 #[.string t] W (ReadPost t W)) :
    Calls Tryd.prog 11 #[.string s] w (ParC s w) := by
  have HP := Lib.hid hp
  clear hp
  by_cases h4 : s.size ≤ 4000
  · obtain ⟨P, hP⟩ : ∃ P, P = pieces s 44 := ⟨_, rfl⟩
    have HSP := Lib.hid (split_yes s ⟨#[44]⟩ w h4 rfl 44 (by decide) rfl)
    rw [← hP] at HSP
    have hn1 : 1 ≤ P.length := by rw [hP]; exact pieces_pos s 44
    have hn2 : P.length ≤ 4001 := by rw [hP]; have := pieces_len s 44; omega
    have HSM : Hid (∀ (j : Nat) x, P[j]? = some x → x.size ≤ 1048576) := Lib.hid (fun j x hx => by rw [hP] at hx; have := pieces_le s 44 j x hx; omega)
    have HPE := Lib.hid hP
    clear hP
    have hmk := makeKeySpec P.length (by omega)
    go_enter Tryd.func11, Tryd.ntmps11
    go_wp2_with fail
    refine (HSP.out).mono ?_
    rintro e w1 ⟨v, rfl, hown, hb⟩
    obtain ⟨gp, cp, rfl, hgp, hcp, hrow⟩ := strsAt_own' hn1 hown
    have HB1 := Lib.hid hb
    have RP1 := Lib.hid hrow
    have HB2 := Lib.hid (show Below w1.heap.size w1 (w1.alloc (.cells (keys (List.replicate P.length zeroK)).toArray 32)) from (Below.refl _ w1).alloc (Nat.le_refl _) _)
    have HROW : Hid (CellRow (w1.alloc (.cells (keys (List.replicate P.length zeroK)).toArray 32)) w1.heap.size (keys (List.replicate P.length zeroK))) := Lib.hid (CellRow.of_row (heap_alloc_new w1 _))
    clear hown hb hrow HSP
    unfold zeroK at HB2 HROW
    go_wp2_with fail
    clear hmk
    go_loopw [5, 7, 8, 22] (fun ok _ _ i wr => ∃ (k : Nat) (ks : List Key4), k ≤ P.length ∧ i = .int .i64 k ∧ ReadTo P ks k ∧ CellRow wr w1.heap.size (keys (ks ++ List.replicate (P.length - k) zeroK)) ∧ Below w1.heap.size w1 wr) (fun _ _ _ i _ => P.length - (intOf i).toNat)
    case atStart => exact ⟨0, [], Nat.zero_le _, rfl, ⟨rfl, fun j x q _ hq => by simp at hq⟩, by rw [List.nil_append, Nat.sub_zero]; exact HROW.out, HB2.out⟩
    case round =>
      obtain ⟨k, ks, hk, rfl, hrd, hr, hb⟩ := hrel
      have HRD := Lib.hid hrd
      have HR := Lib.hid hr
      have HB := Lib.hid hb
      clear hr hb HROW HB2 hrd
      by_cases hlt : k < P.length
      · have hltz : (k : Int) < (P.length : Int) := by omega
        obtain ⟨x, hx⟩ : ∃ x, P[k]? = some x := ⟨_, List.getElem?_eq_getElem hlt⟩
        have hcx := ((RP1.out.below HB.out RP1.out.1).2 k _ (strs_at hx)).1
        have HX := Lib.hid hx
        have HK := Lib.hid (parseSpec_any x wr (HSM.out k x hx) (fun t W ht hW => HP.out t W ht ((HB1.out.trans (HB.out.mono HB1.out.size)).trans (hW.mono (Nat.le_trans HB1.out.size HB.out.size)))))
        clear hx
        go_wp2_with fail
        refine (HK.out).mono ?_
        rintro e w2 ⟨hb2, ⟨q, q0, q1, rfl, hq⟩ | ⟨rfl, hno⟩⟩
        · have hr2 := HR.out.below hb2 HR.out.1
          have HB3 := Lib.hid (HB.out.trans (hb2.mono HB.out.size))
          obtain ⟨m, hm⟩ : ∃ m, P.length - k = m + 1 := ⟨P.length - k - 1, by omega⟩
          rw [hm] at hr2
          have hz : (ks ++ List.replicate (m + 1) zeroK)[k]? = some zeroK := by
            rw [List.getElem?_append_right (by rw [HRD.out.len]; exact Nat.le_refl _), HRD.out.len, Nat.sub_self]; rfl
          obtain ⟨hz0, hz1, hz2, hz3⟩ := keys_at hz
          obtain ⟨c0, f0⟩ := hr2.2 _ _ hz0
          obtain ⟨c1, f1⟩ := hr2.2 _ _ hz1
          obtain ⟨c2, f2⟩ := hr2.2 _ _ hz2
          obtain ⟨c3, f3⟩ := hr2.2 _ _ hz3
          have HR2 := Lib.hid hr2
          have HM := Lib.hid hm
          have HQ := Lib.hid (HRD.out.snoc HX.out hq)
          clear hb2 hr2 hz hz0 hz1 hz2 hz3 hq q0 q1 hm
          go_wp2_with fail
          go_roundw
          case rel =>
            refine ⟨k + 1, ks ++ [q], by omega, by go_num, HQ.out, ?_, (((HB3.out.setCell (p := ⟨w1.heap.size, k * 4, none⟩) (Nat.le_refl _) _).setCell (p := ⟨w1.heap.size, k * 4 + 1, none⟩) (Nat.le_refl _) _).setCell (p := ⟨w1.heap.size, k * 4 + 2, none⟩) (Nat.le_refl _) _).setCell (p := ⟨w1.heap.size, k * 4 + 3, none⟩) (Nat.le_refl _) _⟩
            have hlen : (keys (ks ++ List.replicate (m + 1) zeroK)).length = (k + m + 1) * 4 := by rw [keys_length]; simp [HRD.out.len]; omega
            have e1 : P.length - (k + 1) = m := by have := HM.out; omega
            have e2 := keys_next ks q m
            rw [HRD.out.len] at e2
            rw [e1, ← e2]
            exact (((HR2.out.set (k * 4) _ (by rw [hlen]; omega)).set (k * 4 + 1) _ (by rw [List.length_set, hlen]; omega)).set (k * 4 + 2) _ (by rw [List.length_set, List.length_set, hlen]; omega)).set (k * 4 + 3) _ (by rw [List.length_set, List.length_set, List.length_set, hlen]; omega)
          case measure => simp [intOf]; omega
        · have HNO : Hid (∀ ks', ¬ ParsedOf s ks') := Lib.hid (fun ks' h => by
            have ha := (parsed_iff h.1).1 h.2
            rw [← HPE.out] at ha
            have hkl : k < ks'.length := by rw [ha.1]; exact hlt
            have hki := ha.2 k x _ HX.out (List.getElem?_eq_getElem hkl)
            have hb := h.1.2 ks'[k] (List.getElem_mem hkl)
            exact hno ks'[k] (by omega) (by omega) hki)
          have hr2 := HR.out.below hb2 HR.out.1
          have HB3 := Lib.hid (HB.out.trans (hb2.mono HB.out.size))
          obtain ⟨m, hm⟩ : ∃ m, P.length - k = m + 1 := ⟨P.length - k - 1, by omega⟩
          rw [hm] at hr2
          have hz : (ks ++ List.replicate (m + 1) zeroK)[k]? = some zeroK := by
            rw [List.getElem?_append_right (by rw [HRD.out.len]; exact Nat.le_refl _), HRD.out.len, Nat.sub_self]; rfl
          obtain ⟨hz0, hz1, hz2, hz3⟩ := keys_at hz
          obtain ⟨c0, f0⟩ := hr2.2 _ _ hz0
          obtain ⟨c1, f1⟩ := hr2.2 _ _ hz1
          obtain ⟨c2, f2⟩ := hr2.2 _ _ hz2
          obtain ⟨c3, f3⟩ := hr2.2 _ _ hz3
          clear hb2 hr2 hz hz0 hz1 hz2 hz3 hno hm
          have HB4 := Lib.hid ((((HB3.out.setCell (p := ⟨w1.heap.size, k * 4, none⟩) (Nat.le_refl _) (.int .i64 0)).setCell (p := ⟨w1.heap.size, k * 4 + 1, none⟩) (Nat.le_refl _) (.bool false)).setCell (p := ⟨w1.heap.size, k * 4 + 2, none⟩) (Nat.le_refl _) (.bool false)).setCell (p := ⟨w1.heap.size, k * 4 + 3, none⟩) (Nat.le_refl _) (.bool false))
          have hq0 := parC_none (HB1.out.trans (HB4.out.mono HB1.out.size)) HNO.out
          simp only [World.size_setCell] at hq0
          have HQ := Lib.hid hq0
          clear hq0
          go_wp2_with fail
          go_ret2
          exact HQ.out
      · have hltz : ¬ (k : Int) < (P.length : Int) := by omega
        obtain rfl : k = P.length := by omega
        have hrow : CellRow wr w1.heap.size (keys ks) := by have := HR.out; rwa [Nat.sub_self, List.replicate_zero, List.append_nil] at this
        have hlen : ks.length = P.length := HRD.out.len
        have HC := Lib.hid (isValidSpecs_any (.slice (some ⟨w1.heap.size, 0, none⟩) P.length P.length) ks wr (by have := hrow.flat (n := ks.length) (c := P.length) (by omega); rwa [hlen] at this ⊢) (by omega))
        have HRW := Lib.hid hrow
        have HLEN := Lib.hid hlen
        have HBW := Lib.hid (HB1.out.trans (HB.out.mono HB1.out.size))
        have HALL : Hid (AllKeys (pieces s 44) ks) := Lib.hid (by rw [← HPE.out]; exact ⟨HRD.out.len, HRD.out.all⟩)
        clear hrow hlen
        by_cases hok : OkS ks
        · rw [decide_eq_true hok] at HC
          have HPA : Hid (ParsedOf s ks) := Lib.hid ⟨hok, (parsed_iff hok).2 HALL.out⟩
          clear hok
          go_wp2_with fail
          refine (HC.out).mono ?_
          rintro e w3 ⟨rfl, hb3⟩
          have HQ : Hid (ParC s w (.returned (.tuple #[.slice (some ⟨w1.heap.size, 0, none⟩) P.length P.length, .bool true])) w3) := Lib.hid
            ⟨w1.heap.size, P.length, ks, true, by rw [HLEN.out], by rw [HLEN.out]; exact Nat.le_refl _, HB1.out.size, HRW.out.below hb3 HRW.out.1, .inl ⟨rfl, HPA.out⟩, HBW.out.trans (hb3.mono HBW.out.size)⟩
          clear hb3
          go_wp2_with fail
          go_ret2
          exact HQ.out
        · rw [decide_eq_false hok] at HC
          have HNO : Hid (∀ ks', ¬ ParsedOf s ks') := Lib.hid (fun ks' h => hok (by
            have := ((parsed_iff h.1).1 h.2).uniq HALL.out
            rw [← this]; exact h.1))
          clear hok
          go_wp2_with fail
          refine (HC.out).mono ?_
          rintro e w3 ⟨rfl, hb3⟩
          have HQ := Lib.hid (parC_none (HBW.out.trans (hb3.mono HBW.out.size)) HNO.out)
          clear hb3
          go_wp2_with fail
          go_ret2
          exact HQ.out
  · have HNO : Hid (∀ ks', ¬ ParsedOf s ks') := Lib.hid (fun ks' h => by have := parsed_small h; omega)
    have HS := Lib.hid (split_long s w hs (by omega))
    clear h4
    go_enter Tryd.func11, Tryd.ntmps11
    go_wp2_with fail
    refine (HS.out).mono ?_
    rintro e w1 ⟨rfl, hb⟩
    have HQ := Lib.hid (parC_none hb HNO.out)
    clear hb
    go_wp2_with fail
    go_ret2
    exact HQ.out

end Go.Proofs.YtcbeoihgaccjcaaDoor
