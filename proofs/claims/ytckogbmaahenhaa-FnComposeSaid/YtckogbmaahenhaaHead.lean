/- What the head of the program's text says: it enters in whatever heap, it is a cut, nothing is lifted. -/
import Derived.Test.YtckogbmaahenhaaRows
import Derived.WalkKit
import Derived.ProofKit
namespace Go.Proofs.Ytckogbmaahenhaa
open Go

def headSigns : List Char := [104, 97, 114, 110, 101, 115, 115, 32, 53, 52, 100, 98, 56, 52, 99, 99, 56, 100, 101, 99, 49, 98, 57, 102, 98, 98, 54, 48, 52, 49, 54, 57, 51, 55, 52, 51, 55, 48, 54, 52, 101, 50, 101, 97, 98, 57, 99, 100, 48, 100, 97, 99, 56, 51, 50, 57, 49, 55, 54, 55, 102, 57, 51, 97, 56, 99, 98, 55, 97, 55, 56, 50, 32, 99, 117, 116, 32, 97, 116, 32, 108, 111, 111, 112, 46, 101, 120, 97, 109, 112, 108, 101, 47, 103, 48, 48, 57, 48, 55, 47, 108, 97, 119, 115, 46, 70, 110, 73, 110, 118, 101, 114, 115, 101, 32, 108, 111, 111, 112, 46, 101, 120, 97, 109, 112, 108, 101, 47, 103, 48, 48, 57, 48, 55, 47, 108, 97, 119, 115, 46, 70, 110, 67, 111, 109, 112, 111, 115, 101, 32, 108, 111, 111, 112, 46, 101, 120, 97, 109, 112, 108, 101, 47, 103, 48, 48, 57, 48, 55, 47, 108, 97, 119, 115, 46, 70, 110, 67, 121, 99, 108, 101, 115, 32, 108, 111, 111, 112, 46, 101, 120, 97, 109, 112, 108, 101, 47, 103, 48, 48, 57, 48, 55, 47, 108, 97, 119, 115, 46, 70, 110, 83, 111, 114, 116, 105, 110, 103, 32, 108, 111, 111, 112, 46, 101, 120, 97, 109, 112, 108, 101, 47, 103, 48, 48, 57, 48, 55, 47, 108, 97, 119, 115, 46, 70, 110, 82, 97, 110, 107, 115, 32, 108, 111, 111, 112, 46, 101, 120, 97, 109, 112, 108, 101, 47, 103, 48, 48, 57, 48, 55, 47, 108, 97, 119, 115, 46, 70, 110, 69, 120, 97, 99, 116, 73, 115, 86, 97, 108, 105, 100, 80, 101, 114, 109, 117, 116, 97, 116, 105, 111, 110, 32, 108, 111, 111, 112, 46, 101, 120, 97, 109, 112, 108, 101, 47, 103, 48, 48, 57, 48, 55, 47, 108, 97, 119, 115, 46, 70, 110, 69, 120, 97, 99, 116, 73, 110, 118, 101, 114, 115, 101, 80, 101, 114, 109, 117, 116, 97, 116, 105, 111, 110, 32, 108, 111, 111, 112, 46, 101, 120, 97, 109, 112, 108, 101, 47, 103, 48, 48, 57, 48, 55, 47, 108, 97, 119, 115, 46, 70, 110, 69, 120, 97, 99, 116, 67, 111, 109, 112, 111, 115, 101, 80, 101, 114, 109, 117, 116, 97, 116, 105, 111, 110, 115, 32, 108, 111, 111, 112, 46, 101, 120, 97, 109, 112, 108, 101, 47, 103, 48, 48, 57, 48, 55, 47, 108, 97, 119, 115, 46, 70, 110, 69, 120, 97, 99, 116, 65, 112, 112, 108, 121, 80, 101, 114, 109, 117, 116, 97, 116, 105, 111, 110, 32, 108, 111, 111, 112, 46, 101, 120, 97, 109, 112, 108, 101, 47, 103, 48, 48, 57, 48, 55, 47, 108, 97, 119, 115, 46, 70, 110, 69, 120, 97, 99, 116, 80, 101, 114, 109, 117, 116, 97, 116, 105, 111, 110, 67, 121, 99, 108, 101, 115, 32, 108, 111, 111, 112, 46, 101, 120, 97, 109, 112, 108, 101, 47, 103, 48, 48, 57, 48, 55, 47, 108, 97, 119, 115, 46, 70, 110, 69, 120, 97, 99, 116, 80, 101, 114, 109, 117, 116, 97, 116, 105, 111, 110, 83, 105, 103, 110, 32, 108, 111, 111, 112, 46, 101, 120, 97, 109, 112, 108, 101, 47, 103, 48, 48, 57, 48, 55, 47, 108, 97, 119, 115, 46, 70, 110, 69, 120, 97, 99, 116, 83, 111, 114, 116, 105, 110, 103, 80, 101, 114, 109, 117, 116, 97, 116, 105, 111, 110, 32, 108, 111, 111, 112, 46, 101, 120, 97, 109, 112, 108, 101, 47, 103, 48, 48, 57, 48, 55, 47, 108, 97, 119, 115, 46, 70, 110, 69, 120, 97, 99, 116, 82, 97, 110, 107, 80, 101, 114, 109, 117, 116, 97, 116, 105, 111, 110, 32, 108, 111, 111, 112, 46, 101, 120, 97, 109, 112, 108, 101, 47, 103, 48, 48, 57, 48, 55, 47, 108, 97, 119, 115, 46, 70, 110, 69, 120, 97, 99, 116, 85, 110, 114, 97, 110, 107, 80, 101, 114, 109, 117, 116, 97, 116, 105, 111, 110, 32, 108, 111, 111, 112, 46, 101, 120, 97, 109, 112, 108, 101, 47, 103, 48, 48, 57, 48, 55, 47, 108, 97, 119, 115, 46, 70, 110, 69, 120, 97, 99, 116, 78, 101, 120, 116, 80, 101, 114, 109, 117, 116, 97, 116, 105, 111, 110, 32, 108, 111, 111, 112, 46, 101, 120, 97, 109, 112, 108, 101, 47, 103, 48, 48, 57, 48, 55, 47, 108, 97, 119, 115, 46, 70, 110, 69, 120, 97, 99, 116, 79, 114, 100, 101, 114, 67, 108, 97, 115, 115, 101, 115, 32, 108, 111, 111, 112, 46, 101, 120, 97, 109, 112, 108, 101, 47, 103, 48, 48, 57, 48, 55, 47, 108, 97, 119, 115, 46, 70, 110, 79, 114, 100, 101, 114, 115].map Char.ofNat
set_option maxRecDepth 100000 in
theorem head_bytes : Try.prog.initOrder.toByteArray = List.utf8Encode headSigns := by kernel_rfl
theorem head_str : Try.prog.initOrder = String.ofList headSigns := String.toByteArray_inj.1 (head_bytes.trans String.toByteArray_ofList.symm)
theorem head_list : Try.prog.initOrder.toList = headSigns := by rw [head_str]; exact String.toList_ofList
def headRest : List (List Char) := (behindMainWord (wordsSigns headSigns)).tail
theorem head_words : behindMainWord (wordsSigns Try.prog.initOrder.toList) = "cut".toList :: headRest := by
  rw [head_list]
  kernel_rfl
theorem head_strip : stripLifts liftWords ("cut".toList :: headRest) = ([], "cut".toList :: headRest) := by kernel_rfl
theorem head_lifts : Try.prog.headLifts = [] := by
  unfold Program.headLifts
  simp only [head_words, head_strip]
  kernel_rfl
theorem head_final : Try.prog.liftsFinal = false := by
  unfold Program.liftsFinal
  simp only [head_lifts, head_words]
  kernel_rfl
theorem make_of (P : Program) (r : List (List Char)) (h : behindMainWord (wordsSigns P.initOrder.toList) = "cut".toList :: r) : P.make = some .cut := by
  unfold Program.make
  rw [h]
  rfl
theorem head_make : Try.prog.make = some .cut := make_of _ _ head_words
theorem head_door : Try.prog.doorFits [] = true := by kernel_rfl
theorem head_later : Try.prog.laysLater = false := by kernel_rfl
theorem head_reflect : Try.prog.bearsReflect = false := by kernel_rfl
theorem enter_of (P : Program) (r : List (List Char)) (h : behindMainWord (wordsSigns P.initOrder.toList) = "cut".toList :: r) (h2 : stripLifts liftWords ("cut".toList :: r) = ([], "cut".toList :: r)) (hd : P.doorFits [] = true) (hl : P.laysLater = false) (hr : P.bearsReflect = false) : P.mayEnter = true := by
  unfold Program.mayEnter
  rw [h]
  simp only [h2, hd, hl, hr]
  rfl
theorem head_enter : Try.prog.mayEnter = true := enter_of _ _ head_words head_strip head_door head_later head_reflect

end Go.Proofs.Ytckogbmaahenhaa
