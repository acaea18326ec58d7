/- What the head of the program's text says: it enters in whatever heap, it is a cut, nothing is lifted. -/
import Derived.Test.YthmcjmjkmmbepaaRows
import Derived.WalkKit
import Derived.ProofKit
namespace Go.Proofs.Ythmcjmjkmmbepaa
open Go

def headSigns : List Char := [104, 97, 114, 110, 101, 115, 115, 32, 50, 100, 98, 99, 100, 102, 50, 57, 49, 102, 102, 48, 102, 49, 56, 56, 52, 48, 54, 48, 51, 49, 56, 51, 55, 101, 102, 53, 98, 56, 98, 56, 54, 51, 102, 101, 54, 98, 100, 54, 51, 52, 48, 56, 51, 50, 56, 101, 56, 52, 52, 98, 51, 100, 98, 101, 100, 98, 97, 49, 54, 56, 49, 48, 32, 99, 117, 116, 32, 97, 116, 32, 108, 111, 111, 112, 46, 101, 120, 97, 109, 112, 108, 101, 47, 103, 48, 48, 57, 48, 55, 47, 108, 97, 119, 115, 46, 70, 110, 65, 100, 97, 112, 116, 105, 118, 101, 32, 108, 111, 111, 112, 46, 101, 120, 97, 109, 112, 108, 101, 47, 103, 48, 48, 57, 48, 55, 47, 108, 97, 119, 115, 46, 70, 110, 69, 120, 116, 114, 101, 109, 101, 115, 32, 108, 111, 111, 112, 46, 101, 120, 97, 109, 112, 108, 101, 47, 103, 48, 48, 57, 48, 55, 47, 108, 97, 119, 115, 46, 70, 110, 69, 120, 97, 99, 116, 73, 115, 86, 97, 108, 105, 100, 77, 101, 114, 103, 101, 84, 114, 101, 101, 32, 108, 111, 111, 112, 46, 101, 120, 97, 109, 112, 108, 101, 47, 103, 48, 48, 57, 48, 55, 47, 108, 97, 119, 115, 46, 70, 110, 69, 120, 97, 99, 116, 65, 100, 97, 112, 116, 105, 118, 101, 83, 111, 114, 116, 32, 108, 111, 111, 112, 46, 101, 120, 97, 109, 112, 108, 101, 47, 103, 48, 48, 57, 48, 55, 47, 108, 97, 119, 115, 46, 70, 110, 69, 120, 97, 99, 116, 77, 105, 110, 77, 97, 120, 32, 108, 111, 111, 112, 46, 101, 120, 97, 109, 112, 108, 101, 47, 103, 48, 48, 57, 48, 55, 47, 108, 97, 119, 115, 46, 70, 110, 69, 120, 97, 99, 116, 83, 101, 99, 111, 110, 100, 83, 109, 97, 108, 108, 101, 115, 116].map Char.ofNat
set_option maxRecDepth 100000 in
theorem head_bytes : Try.prog.initOrder.toByteArray = List.utf8Encode headSigns := by kernel_rfl
theorem head_str : Try.prog.initOrder = String.ofList headSigns := String.toByteArray_inj.1 (head_bytes.trans String.toByteArray_ofList.symm)
theorem head_list : Try.prog.initOrder.toList = headSigns := by rw [head_str]; exact String.toList_ofList
def headRest : List (List Char) := (behindMainWord (wordsSigns headSigns)).tail
theorem head_words : behindMainWord (wordsSigns Try.prog.initOrder.toList) = "cut".toList :: headRest := by
  rw [head_list]
  kernel_rfl
theorem head_strip : stripLifts liftWords ("cut".toList :: headRest) = ([], "cut".toList :: headRest) := by kernel_rfl
theorem head_lifts : Try.prog.headLifts = [] := by
  unfold Program.headLifts
  simp only [head_words, head_strip]
  kernel_rfl
theorem head_final : Try.prog.liftsFinal = false := by
  unfold Program.liftsFinal
  simp only [head_lifts, head_words]
  kernel_rfl
theorem make_of (P : Program) (r : List (List Char)) (h : behindMainWord (wordsSigns P.initOrder.toList) = "cut".toList :: r) : P.make = some .cut := by
  unfold Program.make
  rw [h]
  rfl
theorem head_make : Try.prog.make = some .cut := make_of _ _ head_words
theorem head_door : Try.prog.doorFits [] = true := by kernel_rfl
theorem head_later : Try.prog.laysLater = false := by kernel_rfl
theorem head_reflect : Try.prog.bearsReflect = false := by kernel_rfl
theorem enter_of (P : Program) (r : List (List Char)) (h : behindMainWord (wordsSigns P.initOrder.toList) = "cut".toList :: r) (h2 : stripLifts liftWords ("cut".toList :: r) = ([], "cut".toList :: r)) (hd : P.doorFits [] = true) (hl : P.laysLater = false) (hr : P.bearsReflect = false) : P.mayEnter = true := by
  unfold Program.mayEnter
  rw [h]
  simp only [h2, hd, hl, hr]
  rfl
theorem head_enter : Try.prog.mayEnter = true := enter_of _ _ head_words head_strip head_door head_later head_reflect

end Go.Proofs.Ythmcjmjkmmbepaa
