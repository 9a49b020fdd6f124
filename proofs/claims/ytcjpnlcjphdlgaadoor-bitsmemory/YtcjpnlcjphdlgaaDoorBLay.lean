import Derived.Test.YtcjpnlcjphdlgaaDoorBAlg
import Derived.Test.YtcjpnlcjphdlgaaDoorBLayMath
import Derived.Deep.RegionWith
namespace Go.Proofs.YtcjpnlcjphdlgaaDoor.Bt
open Go.RowKit

set_option maxHeartbeats 1000000 in
set_option maxRecDepth 20000 in
theorem lay_any (d g n c m a : Nat) (f h : Nat → Bool) (w0 w : World) (hb0 : Below w0.heap.size w0 w) (hg0 : w0.heap.size ≤ g) (hN : NewSet w d g n (packF n f)) (ho : SetF w0 c m h) (ht : Tail m h) (hn : n ≤ 16777216) (ham : a + m ≤ n) :
    Calls Tryd.prog 67 #[.pointer (some ⟨d, 0, none⟩), .int .i64 (a : Int), .pointer (some ⟨c, 0, none⟩)] w fun e w' => e = .returned (.tuple #[]) ∧ NewSet w' d g n (packF n (joinF f h a)) ∧ ∀ B, B ≤ g → Below B w w' := by
  obtain ⟨a0, b0, b1, bl, br⟩ := set_slice ho
  rw [length_packF] at b1
  have b1w : w.cell? ⟨c, 1, none⟩ = some (.slice a0 (wordsOf m) (wordsOf m)) := (hb0.cell (p := ⟨c, 1, none⟩) bl).trans b1
  have hmn : m ≤ 16777216 := by omega
  have hm : wordsOf m ≤ 262144 := words_le hmn
  have hm2 : wordsOf n ≤ 262144 := words_le hn
  have BR : Hid (Row w0 (.slice a0 (packF m h).length (packF m h).length) (packF m h)) := br
  obtain ⟨q, hq⟩ : ∃ q, a / 64 = q := ⟨_, rfl⟩
  obtain ⟨r, hr⟩ : ∃ r, a % 64 = r := ⟨_, rfl⟩
  have hqi : (a : Int) / 64 = (q : Int) := by omega
  have hri : (a : Int) % 64 = (r : Int) := by omega
  have hr64 : r < 64 := by omega
  have HA : Hid (a = 64 * q + r) := by show _ = _; omega
  have TL : Hid (Tail m h) := ht
  clear br ho hq hr b1 b0 ht
  go_enter Tryd.func67, Tryd.ntmps67
  go_wp2
  go_loopw [21] (fun i wr => ∃ k : Nat, k ≤ wordsOf m ∧ i = .int .i64 k ∧ Hid (∀ B, B ≤ g → Below B w wr) ∧ NewSet wr d g n (packF n (joinF f (firstW h k) a))) (fun i _ => wordsOf m - (intOf i).toNat)
  case atStart => exact ⟨0, Nat.zero_le _, rfl, fun B _ => Below.refl _ _, by rw [firstW_zero]; exact hN⟩
  case round =>
    obtain ⟨k, hk, rfl, HB, hN2⟩ := hrel
    by_cases hlt : k < wordsOf m
    · obtain ⟨gs, rfl, gsl, cs0⟩ := row_cellD BR.out (k := k) (by rw [length_packF]; exact hlt)
      have cs : wr.cell? ⟨gs, k, none⟩ = some (.int .u64 ((packF m h).getD k 0 : Int)) := ((HB.out _ hg0).cell (p := ⟨gs, k, none⟩) gsl).trans ((hb0.cell (p := ⟨gs, k, none⟩) gsl).trans cs0)
      have hqk : q + k < wordsOf n := by have := HA.out; unfold wordsOf at *; omega
      have d1 : wr.cell? ⟨d, 1, none⟩ = some (.slice (some ⟨g, 0, none⟩) (wordsOf n) (wordsOf n)) := cell_of hN2.1 (by simp)
      have gc : wr.cell? ⟨g, q + k, none⟩ = some (.int .u64 ((packF n (joinF f (firstW h k) a)).getD (q + k) 0 : Int)) := cell_of hN2.2 (cells_get (by simpa using hqk))
      have gf : wr.frozen? ⟨g, q + k, none⟩ = false := frozen_of hN2.2
      rw [packF_get _ _ _ hlt] at cs
      have hx := wrd_lt h k
      have hx0 := packF_lt n (joinF f (firstW h k) a) (q + k)
      obtain ⟨x0, e0⟩ : ∃ x0, (packF n (joinF f (firstW h k) a)).getD (q + k) 0 = x0 := ⟨_, rfl⟩
      obtain ⟨s, es⟩ : ∃ s, wrd h k * 2 ^ r % 18446744073709551616 = s := ⟨_, rfl⟩
      obtain ⟨o, eo⟩ : ∃ o, wrd h k / 2 ^ (64 - r) = o := ⟨_, rfl⟩
      have hs : s < 18446744073709551616 := by rw [← es]; exact Nat.mod_lt _ (by omega)
      have hol : o < 18446744073709551616 := by rw [← eo]; exact Nat.lt_of_le_of_lt (Nat.div_le_self _ _) hx
      have HL1 := lay_first HA.out hr64 hqk e0 es
      have hN3 := hN2.store (q + k) (x0 ||| s)
      rw [HL1] at hN3
      rw [e0] at gc hx0
      have hsh : IntKind.u64.wrap ((wrd h k : Int) * 2 ^ r) = (s : Int) := by rw [IntKind.wrap_u64, ← es, pow_cast]; rfl
      have hov : (wrd h k : Int) / 2 ^ (64 - r) = (o : Int) := by rw [← eo, pow_cast]; rfl
      have hor := u64_or_nat x0 s hx0 hs
      have HNX : Hid (NewSet (wr.setCell ⟨g, q + k, none⟩ (.int .u64 ((x0 ||| s : Nat) : Int))) d g n (packF n (lay1F (joinF f (firstW h k) a) h a (q + k) k))) := hN3
      have HEO : Hid (wrd h k / 2 ^ (64 - r) = o) := eo
      have hzl : x0 ||| s < 18446744073709551616 := or64_lt hx0 hs
      clear HL1 hN3 e0 es eo cs0 b1w
      by_cases hz : o = 0
      · subst hz
        have HF : Hid (packF n (lay1F (joinF f (firstW h k) a) h a (q + k) k) = packF n (joinF f (firstW h (k + 1)) a)) := lay_none HA.out hr64 HEO.out
        generalize wrd h k = x at *
        generalize x0 ||| s = z1 at *
        go_wp2
        exact ⟨⟨k + 1, by omega, by go_num, fun B hB => (HB.out B hB).setCell (p := ⟨g, q + k, none⟩) hB _, by rw [← HF.out]; exact HNX.out⟩, by simp [intOf]; omega⟩
      · have hqk2 : q + k + 1 < wordsOf n := lay_room HA.out TL.out ham (by rw [HEO.out]; exact hz)
        obtain ⟨x1, e1⟩ : ∃ x1, (packF n (lay1F (joinF f (firstW h k) a) h a (q + k) k)).getD (q + k + 1) 0 = x1 := ⟨_, rfl⟩
        have hx1 := packF_lt n (lay1F (joinF f (firstW h k) a) h a (q + k) k) (q + k + 1)
        have HF : Hid ((packF n (lay1F (joinF f (firstW h k) a) h a (q + k) k)).set (q + k + 1) (x1 ||| o) = packF n (joinF f (firstW h (k + 1)) a)) := lay_second HA.out hr64 hqk2 e1 HEO.out
        have gc2 := cell_of HNX.out.2 (cells_get (k := q + k + 1) (by simpa using hqk2))
        have gf2 := frozen_of (o := q + k + 1) HNX.out.2
        have d2 : (wr.setCell ⟨g, q + k, none⟩ (.int .u64 ((x0 ||| s : Nat) : Int))).cell? ⟨d, 1, none⟩ = some (.slice (some ⟨g, 0, none⟩) (wordsOf n) (wordsOf n)) := cell_of HNX.out.1 (by simp)
        rw [e1] at gc2 hx1
        have hor2 := u64_or_nat x1 o hx1 hol
        have hzi : ((o : Int) != 0) = true := by rw [bne_iff_ne]; omega
        have hki : (q : Int) + (k : Int) + 1 < (wordsOf n : Int) := by omega
        generalize wrd h k = x at *
        generalize x0 ||| s = z1 at *
        generalize x1 ||| o = z2 at *
        clear e1
        go_wp2
        exact ⟨⟨k + 1, by omega, by go_num, fun B hB => ((HB.out B hB).setCell (p := ⟨g, q + k, none⟩) hB _).setCell (p := ⟨g, q + k + 1, none⟩) hB _, by rw [← HF.out]; exact HNX.out.store (q + k + 1) _⟩, by simp [intOf]; omega⟩
    · go_wp2
      go_end0
      refine ⟨rfl, ?_, HB.out⟩
      have hh := hN2
      rw [firstW_all TL.out (show m ≤ 64 * k by have := wordsOf_lt m; omega)] at hh
      exact hh
end Go.Proofs.YtcjpnlcjphdlgaaDoor.Bt
