/- What coachkeep.taught returns, with journal.Make's contract. -/
import Derived.Test.YtnlcheebdkjpbaeJ30
import Derived.Test.YtnlcheebdkjpbaeJ35
import Derived.Test.YtnlcheebdkjpbaeJ28
import Derived.Test.YtnlcheebdkjpbaeJ27
namespace Go.Proofs.Ytnlcheebdkjpbae.Fx
open Go.RowKit

theorem make_says : MakeSays := fun c a n cap X DI DO m w hs hx => by
  refine (jMake_calls c a n cap X DI DO m w hs hx).mono ?_
  rintro e w' ⟨b, k, R, he, h⟩
  exact ⟨b, k, R, he, h.recs, h.says, h.len8, h.bel⟩
theorem taught_any (w : World) : Calls Try.prog 28 #[] w fun e w' => e = .returned (.bool true) ∧ Below w.heap.size w w' := taught_calls make_says w
end Go.Proofs.Ytnlcheebdkjpbae.Fx

/- TrainGoes: it returns true, whatever is handed in. -/
namespace Go.Proofs.Ytnlcheebdkjpbae.Fx
open Go.RowKit

theorem trainGoes_any (c : Cfg) (a : Option Addr) (n cap : Nat) (X : Nat → Exm) (DI DO : Nat → List Int) (m0 n0 : Int) (w : World) (hs : (Lit.int .u64 c.seed).wf = true) (hx : Exs w a n cap X DI DO) (_ : (Lit.int .i64 m0).wf = true) (_ : (Lit.int .i64 n0).wf = true) :
    Calls Try.prog 7 #[c.val, .slice a n cap, .int .i64 m0, .int .i64 n0] w fun e w' => e = .returned (.bool true) ∧ Below w.heap.size w w' :=
  trainGoes_core c (wf_word hs) a n cap X DI DO m0 n0 w hx (fun q => taught_any q)
end Go.Proofs.Ytnlcheebdkjpbae.Fx
