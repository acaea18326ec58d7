/- slices.symMergeCmpFunc: two ascending neighbours become their stable arrangement (loop.example/g00907/impl.Record). -/
import Derived.Test.YtagibgphegoagaaSyR1
import Derived.Test.YtagibgphegoagaaSyR2
import Derived.Test.YtagibgphegoagaaSyR3
import Derived.Test.YtagibgphegoagaaSyR4
namespace Go.Proofs.Ytagibgphegoagaa
open Go.Shelf Go.RowKit Go.Lib Go.Sort StC

theorem symMergeR (cf : (Int × Int) → (Int × Int) → Int) (hO : SWO (ltOf cf)) (g : Nat) (cb : Array Value) (blk off cap : Nat) (d0 : Array (Int × Int)) (w0 : World) (R : RowK encR 2 w0 blk off d0) (hsz : d0.size < 4611686018427387904)
    (eg : ∀ args w, (callFunc g args).run Try.prog w = .ok (.enter g args) w) (hcmp : CmpLays Try.prog g cb encR 2 cf blk off d0.size w0) :
    ∀ (fuel : Nat), ∀ (p l r s : List (Int × Int)) (w : World), 0 < l.length → 0 < r.length → l.length + r.length ≤ fuel → l.Pairwise (fun a b => ltOf cf b a = false) → r.Pairwise (fun a b => ltOf cf b a = false) → d0.size = p.length + l.length + r.length + s.length →
    ∀ (az mz bz : Int), az = (p.length : Nat) → mz = (p.length + l.length : Nat) → bz = (p.length + l.length + r.length : Nat) → SWK encR 2 w0 blk off (p ++ l ++ r ++ s).toArray w →
    Calls Try.prog 187 #[.slice (some ⟨blk, off, none⟩) d0.size cap, .int .i64 az, .int .i64 mz, .int .i64 bz, .func (.func g) #[] cb] w fun e w' =>
      e = .returned (.tuple #[]) ∧ ∃ M, St (ltOf cf) (l ++ r) M ∧ SWK encR 2 w0 blk off (p ++ M ++ s).toArray w' := by
  intro fuel
  induction fuel with
  | zero => intro p l r s w hl hr hf; omega
  | succ fuel ih =>
    intro p l r s w hl hr hf sl sr hN az mz bz haz hmz hbz S
    by_cases h1 : l.length = 1
    · exact symMergeR_1 cf hO g cb blk off cap d0 w0 R hsz eg hcmp p l r s w hl hr sl sr hN az mz bz haz hmz hbz S h1
    · by_cases h2 : r.length = 1
      · exact symMergeR_2 cf hO g cb blk off cap d0 w0 R hsz eg hcmp p l r s w hl hr sl sr hN az mz bz haz hmz hbz S h1 h2
      · by_cases hg : (p.length + (p.length + l.length + r.length)) / 2 < p.length + l.length
        · exact symMergeR_3 cf hO g cb blk off cap d0 w0 R hsz eg hcmp fuel ih p l r s w hl hr sl sr hN az mz bz haz hmz hbz S hf h1 h2 hg
        · exact symMergeR_4 cf hO g cb blk off cap d0 w0 R hsz eg hcmp fuel ih p l r s w hl hr sl sr hN az mz bz haz hmz hbz S hf h1 h2 hg

end Go.Proofs.Ytagibgphegoagaa
