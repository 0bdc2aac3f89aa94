/- Layer 8: the reference's words. -/
import Derived.Test.YtjdggdkdlgaocaaDoorNamL
namespace Go.Proofs.YtjdggdkdlgaocaaDoor
set_option linter.unusedVariables false
open Go.RowKit Go.Lib

def wordsC : Array Value := #[.string ⟨#[]⟩, .string ⟨#[115, 101, 103, 45]⟩, .string ⟨#[104, 105, 110, 116, 45]⟩, .string ⟨#[112, 111, 105, 110, 116, 45]⟩]
set_option maxRecDepth 100000 in
theorem rwords_any (w : World) : Calls Tryd.prog 24 #[] w fun e w' => e = .returned (.slice (some ⟨w.heap.size, 0, none⟩) 4 4) ∧ w.alloc (.cells wordsC 9) = w' := by
  go_enter Tryd.func24, Tryd.ntmps24
  go_wp2
  go_ret
  exact ⟨rfl, rfl⟩
end Go.Proofs.YtjdggdkdlgaocaaDoor
