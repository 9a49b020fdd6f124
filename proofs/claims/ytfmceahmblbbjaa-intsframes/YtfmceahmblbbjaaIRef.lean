/-
  The document's ToFrame of chapter 19, whole. (Written by mkiref.py.)
-/
import Derived.Test.YtfmceahmblbbjaaIRefA
import Derived.Test.YtfmceahmblbbjaaIRefB
import Derived.Test.YtfmceahmblbbjaaIRefC
import Derived.Test.YtfmceahmblbbjaaIRefD
import Derived.Test.YtfmceahmblbbjaaIRefE
import Derived.Test.YtfmceahmblbbjaaIRefF
namespace Go.Proofs.Ytfmceahmblbbjaa
open Go.ChangeShapes Go.WideShapes Go.ChangeAt Go.RowKit It

theorem refFrame_good (op b c : Int) (n : Nat) (w : World) (hb : In b) (hc : In c) (hn : n ≤ 64) (ho : opI op = true) : Calls Try.prog 4 #[.int .i64 op, .int .i64 c, .int .i64 b, .int .i64 (n : Int)] w fun e w' => e = .returned (.tuple #[.int .i64 (toO op b c (last b n)), .int .u64 (toV op b c (last b n) : Int), .bool (allF op b c (last b n)), .bool (nonF op b c (last b n))]) ∧ Below w.heap.size w w' := by
  by_cases h1 : b ≤ c
  · by_cases h2 : (c - b).toNat ≤ last b n
    · by_cases h3 : 0 < (c - b).toNat <;> by_cases h4 : (c - b).toNat < last b n
      · exact refFrame_f op b c n w hb hc hn ho ⟨h1, h2, h3, h4⟩
      · exact refFrame_e op b c n w hb hc hn ho ⟨h1, h2, h3, h4⟩
      · exact refFrame_d op b c n w hb hc hn ho ⟨h1, h2, h3, h4⟩
      · exact refFrame_c op b c n w hb hc hn ho ⟨h1, h2, h3, h4⟩
    · exact refFrame_b op b c n w hb hc hn ho ⟨h1, h2⟩
  · exact refFrame_a op b c n w hb hc hn ho h1
end Go.Proofs.Ytfmceahmblbbjaa
