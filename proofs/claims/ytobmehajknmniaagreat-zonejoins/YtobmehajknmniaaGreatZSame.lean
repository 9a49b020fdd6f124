/-
  The document's Same of records; the law's sound. (Written by mksame.py.)
-/
import Derived.Test.YtobmehajknmniaaGreatZLaw
namespace Go.Proofs.YtobmehajknmniaaGreat
open Go.RowKit Crc Cu Vl
attribute [local go_sem] run_store_float

set_option maxRecDepth 4000 in
set_option maxHeartbeats 4000000 in
theorem same14_yes (z : Zn) (a a' : Option Addr) (d d' : Nat) (w : World) (h1 : Bytes w a z.bl) (h2 : Bytes w a' z.bl) : Calls Tryz.prog 14 #[zv z a d, zv z a' d'] w fun e w' => e = .returned (.bool true) ∧ Below w.heap.size w w' := by
  have HSa := hid fun w => same05_yes z.mn w
  have HSb := hid fun w => same05_yes z.mx w
  have HR1 := hid fun W (h : Bytes W a z.bl) => run_strL d h
  have HR2 := hid fun W (h : Bytes W a' z.bl) => run_strL d' h
  have H1 := hid h1
  have H2 := hid h2
  obtain ⟨W, hW⟩ : ∃ W, (w.alloc (.cells (za z a d) 30)).alloc (.cells (za z a' d') 30) = W := ⟨_, rfl⟩
  obtain ⟨xx, xy, hB⟩ := two_bx hW
  have Xx := hid xx
  have Xy := hid xy
  have B := hid hB
  have HW := hid hW
  clear hW hB xx xy h1 h2
  obtain ⟨n, ⟨Ka, Ia, ba, sa⟩, ⟨Kb, Ib, bb, sb⟩, bl⟩ := z
  generalize strL _ = S at HR1 HR2
  unfold vv at *
  unfold zv
  unfold za at HW
  dsimp only at *
  have hnn : (n == n) = true := by simp
  have hss : (S.toList == S.toList) = true := by simp
  obtain ⟨x0, x1, x2, x3, x4, x5, x6, x7, x8, x9⟩ := Xx.out.zone
  obtain ⟨y0, y1, y2, y3, y4, y5, y6, y7, y8, y9⟩ := Xy.out.zone
  go_enter Tryz.func14, Tryz.ntmps14
  go_wp2_with fail
  rw [HW.out]
  clear HW
  refine (HSa.out _).mono ?_
  rintro e w1 ⟨rfl, hb⟩
  clear x0 x1 x2 x3 x4 x5 x6 x7 x8 x9
  clear y0 y1 y2 y3 y4 y5 y6 y7 y8 y9
  replace B := hid (below_up B.out hb)
  replace Xx := hid (Xx.out.later hb)
  replace Xy := hid (Xy.out.later hb)
  clear hb
  obtain ⟨x0, x1, x2, x3, x4, x5, x6, x7, x8, x9⟩ := Xx.out.zone
  obtain ⟨y0, y1, y2, y3, y4, y5, y6, y7, y8, y9⟩ := Xy.out.zone
  go_wp2_with fail
  refine (HSb.out _).mono ?_
  rintro e w2 ⟨rfl, hb⟩
  clear x0 x1 x2 x3 x4 x5 x6 x7 x8 x9
  clear y0 y1 y2 y3 y4 y5 y6 y7 y8 y9
  replace B := hid (below_up B.out hb)
  replace Xx := hid (Xx.out.later hb)
  replace Xy := hid (Xy.out.later hb)
  clear hb
  obtain ⟨x0, x1, x2, x3, x4, x5, x6, x7, x8, x9⟩ := Xx.out.zone
  obtain ⟨y0, y1, y2, y3, y4, y5, y6, y7, y8, y9⟩ := Xy.out.zone
  have r1 := HR1.out _ (H1.out.later B.out)
  have r2 := HR2.out _ (H2.out.later B.out)
  go_wp2_with fail
  go_ret
  exact ⟨rfl, B.out⟩
end Go.Proofs.YtobmehajknmniaaGreat
