/- What the head of the program's text says: it enters in whatever heap, it is a cut, nothing is lifted. -/
import Derived.Test.YtjmmhakmidddoaaRows
import Derived.WalkKit
import Derived.ProofKit
namespace Go.Proofs.Ytjmmhakmidddoaa
open Go

def headSigns : List Char := [104, 97, 114, 110, 101, 115, 115, 32, 52, 102, 102, 98, 50, 51, 53, 102, 55, 100, 102, 49, 53, 99, 52, 55, 98, 99, 55, 53, 55, 49, 49, 54, 51, 51, 98, 98, 48, 48, 49, 48, 57, 56, 53, 52, 55, 50, 53, 54, 102, 100, 57, 51, 49, 102, 53, 56, 99, 100, 52, 101, 48, 50, 100, 50, 51, 56, 100, 48, 101, 49, 49, 49, 32, 99, 117, 116, 32, 97, 116, 32, 108, 111, 111, 112, 46, 101, 120, 97, 109, 112, 108, 101, 47, 103, 48, 48, 57, 48, 55, 47, 108, 97, 119, 115, 46, 70, 110, 67, 121, 99, 108, 101, 115, 32, 108, 111, 111, 112, 46, 101, 120, 97, 109, 112, 108, 101, 47, 103, 48, 48, 57, 48, 55, 47, 108, 97, 119, 115, 46, 70, 110, 69, 120, 97, 99, 116, 80, 101, 114, 109, 117, 116, 97, 116, 105, 111, 110, 67, 121, 99, 108, 101, 115, 32, 108, 111, 111, 112, 46, 101, 120, 97, 109, 112, 108, 101, 47, 103, 48, 48, 57, 48, 55, 47, 108, 97, 119, 115, 46, 70, 110, 69, 120, 97, 99, 116, 79, 114, 100, 101, 114, 67, 108, 97, 115, 115, 101, 115, 32, 108, 111, 111, 112, 46, 101, 120, 97, 109, 112, 108, 101, 47, 103, 48, 48, 57, 48, 55, 47, 108, 97, 119, 115, 46, 70, 110, 79, 114, 100, 101, 114, 115, 32, 108, 111, 111, 112, 46, 101, 120, 97, 109, 112, 108, 101, 47, 103, 48, 48, 57, 48, 55, 47, 108, 97, 119, 115, 46, 70, 110, 73, 110, 115, 101, 114, 116, 105, 111, 110, 32, 108, 111, 111, 112, 46, 101, 120, 97, 109, 112, 108, 101, 47, 103, 48, 48, 57, 48, 55, 47, 108, 97, 119, 115, 46, 70, 110, 69, 120, 99, 104, 97, 110, 103, 101, 115, 32, 108, 111, 111, 112, 46, 101, 120, 97, 109, 112, 108, 101, 47, 103, 48, 48, 57, 48, 55, 47, 108, 97, 119, 115, 46, 70, 110, 83, 111, 114, 116, 101, 100, 32, 108, 111, 111, 112, 46, 101, 120, 97, 109, 112, 108, 101, 47, 103, 48, 48, 57, 48, 55, 47, 108, 97, 119, 115, 46, 70, 110, 69, 120, 97, 99, 116, 73, 115, 83, 111, 114, 116, 101, 100, 32, 108, 111, 111, 112, 46, 101, 120, 97, 109, 112, 108, 101, 47, 103, 48, 48, 57, 48, 55, 47, 108, 97, 119, 115, 46, 70, 110, 69, 120, 97, 99, 116, 73, 110, 115, 101, 114, 116, 105, 111, 110, 83, 111, 114, 116, 32, 108, 111, 111, 112, 46, 101, 120, 97, 109, 112, 108, 101, 47, 103, 48, 48, 57, 48, 55, 47, 108, 97, 119, 115, 46, 70, 110, 69, 120, 97, 99, 116, 66, 105, 110, 97, 114, 121, 73, 110, 115, 101, 114, 116, 105, 111, 110, 83, 111, 114, 116, 32, 108, 111, 111, 112, 46, 101, 120, 97, 109, 112, 108, 101, 47, 103, 48, 48, 57, 48, 55, 47, 108, 97, 119, 115, 46, 70, 110, 69, 120, 97, 99, 116, 83, 101, 108, 101, 99, 116, 105, 111, 110, 83, 111, 114, 116, 32, 108, 111, 111, 112, 46, 101, 120, 97, 109, 112, 108, 101, 47, 103, 48, 48, 57, 48, 55, 47, 108, 97, 119, 115, 46, 70, 110, 69, 120, 97, 99, 116, 66, 117, 98, 98, 108, 101, 80, 97, 115, 115, 101, 115, 32, 108, 111, 111, 112, 46, 101, 120, 97, 109, 112, 108, 101, 47, 103, 48, 48, 57, 48, 55, 47, 108, 97, 119, 115, 46, 70, 110, 69, 120, 97, 99, 116, 83, 104, 101, 108, 108, 83, 111, 114, 116, 32, 108, 111, 111, 112, 46, 101, 120, 97, 109, 112, 108, 101, 47, 103, 48, 48, 57, 48, 55, 47, 108, 97, 119, 115, 46, 70, 110, 69, 120, 97, 99, 116, 67, 121, 99, 108, 101, 87, 114, 105, 116, 101, 115].map Char.ofNat
set_option maxRecDepth 100000 in
theorem head_bytes : Try.prog.initOrder.toByteArray = List.utf8Encode headSigns := by kernel_rfl
theorem head_str : Try.prog.initOrder = String.ofList headSigns := String.toByteArray_inj.1 (head_bytes.trans String.toByteArray_ofList.symm)
theorem head_list : Try.prog.initOrder.toList = headSigns := by rw [head_str]; exact String.toList_ofList
def headRest : List (List Char) := (behindMainWord (wordsSigns headSigns)).tail
theorem head_words : behindMainWord (wordsSigns Try.prog.initOrder.toList) = "cut".toList :: headRest := by
  rw [head_list]
  kernel_rfl
theorem head_strip : stripLifts liftWords ("cut".toList :: headRest) = ([], "cut".toList :: headRest) := by kernel_rfl
theorem head_lifts : Try.prog.headLifts = [] := by
  unfold Program.headLifts
  simp only [head_words, head_strip]
  kernel_rfl
theorem head_final : Try.prog.liftsFinal = false := by
  unfold Program.liftsFinal
  simp only [head_lifts, head_words]
  kernel_rfl
theorem make_of (P : Program) (r : List (List Char)) (h : behindMainWord (wordsSigns P.initOrder.toList) = "cut".toList :: r) : P.make = some .cut := by
  unfold Program.make
  rw [h]
  rfl
theorem head_make : Try.prog.make = some .cut := make_of _ _ head_words
theorem head_door : Try.prog.doorFits [] = true := by kernel_rfl
theorem head_later : Try.prog.laysLater = false := by kernel_rfl
theorem head_reflect : Try.prog.bearsReflect = false := by kernel_rfl
theorem enter_of (P : Program) (r : List (List Char)) (h : behindMainWord (wordsSigns P.initOrder.toList) = "cut".toList :: r) (h2 : stripLifts liftWords ("cut".toList :: r) = ([], "cut".toList :: r)) (hd : P.doorFits [] = true) (hl : P.laysLater = false) (hr : P.bearsReflect = false) : P.mayEnter = true := by
  unfold Program.mayEnter
  rw [h]
  simp only [h2, hd, hl, hr]
  rfl
theorem head_enter : Try.prog.mayEnter = true := enter_of _ _ head_words head_strip head_door head_later head_reflect

end Go.Proofs.Ytjmmhakmidddoaa
