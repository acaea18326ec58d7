/- The draws' any1, by its contract: a short text, and nothing but the cursor moved. -/
import Derived.Test.YtgnmkmnodmlacaaPick
namespace Go.Proofs.Ytgnmkmnodmlacaa
open Go.RowKit

/-- A short text. -/
def AnyC (B g : Nat) (a : Option Addr) (len cap : Nat) (m : Nat) (w : World) (e : Ending) (w' : World) : Prop :=
  ∃ x : ByteArray, x.size ≤ 10 ∧ e = .returned (.string x) ∧ Cur B g a len cap (m + 2) w' ∧ But g w w'

theorem any1_any (B g : Nat) (a : Option Addr) (len cap : Nat) (m : Nat) (w : World) (h : Cur B g a len cap m w) (hm : m ≤ 1000000) :
    Calls Try.prog 25 #[.pointer (some ⟨g, 0, none⟩)] w (AnyC B g a len cap m w) := by
  have H := Lib.hid h
  clear h
  go_enter Try.func25, Try.ntmps25
  go_wp2_with fail
  refine (of_lit B g a len cap m [⟨#[]⟩, ⟨#[97]⟩, ⟨#[97, 44, 98]⟩, ⟨#[115, 111, 109, 101, 32, 119, 111, 114, 100, 115]⟩, ⟨#[120, 35, 121]⟩, ⟨#[45, 49, 50]⟩, ⟨#[0, 255]⟩, ⟨#[44, 44]⟩, ⟨#[48]⟩] 9 _ _ rfl rfl _ H.out hm (by decide) (by decide)).mono ?_
  rintro e w1 ⟨x, hx, rfl, hc, hb⟩
  obtain ⟨y, hy, rfl⟩ := List.mem_map.1 hx
  have HX : Hid (y.size ≤ 10) := Lib.hid (by simp only [List.mem_cons, List.not_mem_nil, or_false] at hy; rcases hy with rfl | rfl | rfl | rfl | rfl | rfl | rfl | rfl | rfl <;> decide)
  have H1 := Lib.hid hc
  have HB1 := Lib.hid hb
  clear H hx hy hc hb
  go_wp2_with fail
  go_ret
  exact ⟨_, HX.out, rfl, H1.out, HB1.out⟩

end Go.Proofs.Ytgnmkmnodmlacaa
