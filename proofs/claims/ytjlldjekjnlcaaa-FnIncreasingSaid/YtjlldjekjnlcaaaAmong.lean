/- The draws' among, by its contract: one of the numbers, and nothing but the cursor moved. -/
import Derived.Test.YtjlldjekjnlcaaaPick
namespace Go.Proofs.Ytjlldjekjnlcaaa
open Go.RowKit

theorem among_any (B g : Nat) (a : Option Addr) (len cap : Nat) (m : Nat) (gl : Nat) (l : List Int) (c : Nat) (w : World) (h : Cur B g a len cap m w) (hm : m ≤ 1000000) (hl : RowIs w gl 3 (l.map (Value.int .i64))) (hg : gl ≠ g) (hn : 1 ≤ l.length) (hn2 : l.length ≤ 1000000) :
    Calls Try.prog 59 #[.pointer (some ⟨g, 0, none⟩), .slice (some ⟨gl, 0, none⟩) l.length c] w (OfC B g a len cap m (l.map (Value.int .i64)) w) := by
  have H := Lib.hid h
  have HL := Lib.hid hl
  clear h hl
  go_enter Try.func59, Try.ntmps59
  go_wp2_with fail
  refine (pick_any B g a len cap m _ _ H.out hm (by omega)).mono ?_
  rintro e w1 ⟨r, hr0, hr1, rfl, hc, hb⟩
  obtain ⟨k, rfl⟩ : ∃ k : Nat, r = k := ⟨r.toNat, by omega⟩
  have hk : k < l.length := by omega
  have hcell : w1.cell? ⟨gl, k, none⟩ = some (.int .i64 l[k]) := by rw [(HL.out.but hb hg).cell k]; simp [hk]
  have HM : Hid (Value.int .i64 l[k] ∈ l.map (Value.int .i64)) := Lib.hid (List.mem_map.2 ⟨_, List.getElem_mem hk, rfl⟩)
  have H1 := Lib.hid hc
  have HB1 := Lib.hid hb
  clear H hc hb HL hr1 hr0
  go_wp2_with fail
  go_ret
  exact ⟨_, HM.out, rfl, H1.out, HB1.out⟩

theorem among_lit (B g : Nat) (a : Option Addr) (len cap : Nat) (m : Nat) (l : List Int) (n c : Nat) (A : Array Value) (hA : A = (l.map (Value.int .i64)).toArray) (hl : n = l.length) (w : World) (h : Cur B g a len cap m w) (hm : m ≤ 1000000) (hn : 1 ≤ l.length) (hn2 : l.length ≤ 1000000) :
    Calls Try.prog 59 #[.pointer (some ⟨g, 0, none⟩), .slice (some ⟨w.heap.size, 0, none⟩) n c] (w.alloc (.cells A 3)) (OfC B g a len cap m (l.map (Value.int .i64)) w) := by
  subst hA hl
  refine (among_any B g a len cap m w.heap.size l c _ (h.alloc _) hm (heap_alloc_new w _) (by have := h.lt; omega) hn hn2).mono ?_
  rintro e w1 ⟨x, hx, he, hc, hb⟩
  exact ⟨x, hx, he, hc, (But.alloc g w _).trans hb⟩

end Go.Proofs.Ytjlldjekjnlcaaa
