/- The program's heap, made of lists, by its contract. -/
import Derived.Test.YtipdfmedbcafpaaConcI
import Derived.Test.YtipdfmedbcafpaaHpUp
namespace Go.Proofs.Ytipdfmedbcafpaa
open Go.RowKit P El Hp
set_option linter.unusedVariables false

def hsv (v : Value) (d q : Nat) : List Value := [v, .int .i64 (d : Int), .int .i64 (q : Int)]
/-- The heap, its list maybe nil. -/
structure HpN (base s : Nat) (v : Value) (L : List Int) (d q : Nat) (w : World) : Prop where
  st : CellRow w s (hsv v d q)
  own : OwnN base w v L
  bs : base ≤ s
  ne : v.ownBlock ≠ some s
theorem HpN.big {base s d q : Nat} {v : Value} {L : List Int} {w : World} (h : HpN base s v L d q w) (h0 : 0 < L.length) : ∃ g cap, v = .slice (some ⟨g, 0, none⟩) L.length cap ∧ HpG base s g cap L d q w := by
  obtain ⟨hst, ho, hbs, hne⟩ := h
  rcases ho.2 with ⟨_, hz⟩ | ⟨g, cap, _, e, _⟩
  · omega
  · subst e
    obtain ⟨h1, h2, h3⟩ := OwnN.row ho
    exact ⟨g, cap, rfl, hst, h3, fun e => hne (by rw [e]; rfl), hbs, h1, h2⟩
theorem HpN.small {base s d q : Nat} {v : Value} {w : World} (h : HpN base s v [] d q w) : ∃ a c, v = .slice a 0 c := by
  rcases h.own.2 with ⟨e, _⟩ | ⟨g, cap, _, e, _⟩
  · exact ⟨_, _, e⟩
  · exact ⟨_, _, e⟩
theorem HpN.below {base s d q : Nat} {v : Value} {L : List Int} {w w' : World} (h : HpN base s v L d q w) (hb : Below w.heap.size w w') : HpN base s v L d q w' :=
  ⟨h.st.same (hb.block s h.st.1) hb.size, h.own.keep (fun g hg => hb.block g (h.own.lt g hg).2), h.bs, h.ne⟩
theorem HpN.c0 {base s d q : Nat} {v : Value} {L : List Int} {w : World} (h : HpN base s v L d q w) : w.cell? ⟨s, 0, none⟩ = some v ∧ w.cell? ⟨s, 1, none⟩ = some (.int .i64 (d : Int)) ∧ w.cell? ⟨s, 2, none⟩ = some (.int .i64 (q : Int)) :=
  ⟨(h.st.2 0 _ rfl).1, (h.st.2 1 _ rfl).1, (h.st.2 2 _ rfl).1⟩
set_option maxRecDepth 100000 in
theorem mk_any (d pb pc : Nat) (Ps : List Part) (w : World) (hp : ∀ (j : Nat) p, Ps[j]? = some p → w.cell? ⟨pb, j, none⟩ = some p.val ∧ pb < w.heap.size ∧ p.ok w) (hn : (joined Ps).length ≤ 1048576) (hk : Ps.length ≤ 1048576) :
    Calls Try.prog 155 #[.int .i64 (d : Int), .slice (some ⟨pb, 0, none⟩) Ps.length pc] w fun e w' => ∃ s v, e = .returned (.pointer (some ⟨s, 0, none⟩)) ∧ HpN w.heap.size s v (joined Ps) d 0 w' ∧ Below w.heap.size w w' := by
  have HC := Lib.hid (concatI_any pb pc Ps w hp hn hk)
  clear hp
  go_enter Try.func155, Try.ntmps155
  go_wp2_with fail
  refine (HC.out).mono ?_
  rintro e w1 ⟨v, rfl, ho, hb⟩
  have hv : ∃ a n c, v = .slice a n c := by
    rcases ho.2 with ⟨e, _⟩ | ⟨g, cap, _, e, _⟩
    · exact ⟨_, _, _, e⟩
    · exact ⟨_, _, _, e⟩
  obtain ⟨va, vn, vc, rfl⟩ := hv
  have HRES : Hid (HpN w.heap.size w1.heap.size (.slice va vn vc) (joined Ps) d 0 (w1.alloc (.cells #[.slice va vn vc, .int .i64 (d : Int), .int .i64 0] 154)) ∧ Below w.heap.size w (w1.alloc (.cells #[.slice va vn vc, .int .i64 (d : Int), .int .i64 0] 154))) := Lib.hid (by
    have hA : RowIs (w1.alloc (.cells #[.slice va vn vc, .int .i64 (d : Int), .int .i64 0] 154)) w1.heap.size 154 (hsv (.slice va vn vc) d 0) := heap_alloc_new w1 _
    refine ⟨⟨CellRow.of_row hA, ho.keep (fun g hg => heap_alloc_old _ _ (ho.lt g hg).2), hb.size, fun e => ?_⟩, hb.trans ((Below.refl _ _).alloc hb.size _)⟩
    have := (ho.lt _ e).2; omega)
  clear ho hb HC
  go_wp2_with fail
  go_ret
  exact ⟨_, _, rfl, HRES.out⟩

end Go.Proofs.Ytipdfmedbcafpaa
