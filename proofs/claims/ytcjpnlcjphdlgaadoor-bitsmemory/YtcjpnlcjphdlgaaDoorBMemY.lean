/-
  THE WALK OF BitsMemory, as the card calls it.
-/
import Derived.Test.YtcjpnlcjphdlgaaDoorBMemX
import Derived.Test.YtcjpnlcjphdlgaaDoorBArgs
namespace Go.Proofs.YtcjpnlcjphdlgaaDoor.Ba
open Go.RowKit Bt

theorem memB_walk (a0 : Option Addr) (bs : List Bool) (ca : Nat) (b0 : Option Addr) (cs : List Bool) (cb : Nat) (x : Int) (w : World) (hT : Tab w) (hA : BoolArg w a0 bs ca) (hB : BoolArg w b0 cs cb) :
    Calls Tryd.prog 4 #[.slice a0 bs.length ca, .slice b0 cs.length cb, .int .i64 x] w fun e w' => e = .returned (.bool true) ∧ Below w.heap.size w w' := by
  obtain ⟨h1, h2, h3, h4⟩ := hA
  obtain ⟨k1, k2, k3, k4⟩ := hB
  refine walk_bitsMemory w a0 b0 bs cs ca cb x hT h1 k1 h2 k2 h3 k3 (fun e => ?_) (fun e => ?_)
  · rcases h4 with ⟨a, ha⟩ | ⟨_, hb, hc⟩
    · rw [ha] at e; cases e
    · rw [hb]; exact ⟨rfl, hc⟩
  · rcases k4 with ⟨a, ha⟩ | ⟨_, hb, hc⟩
    · rw [ha] at e; cases e
    · rw [hb]; exact ⟨rfl, hc⟩
end Go.Proofs.YtcjpnlcjphdlgaaDoor.Ba
