/-
  THE WALK OF CheckPieces.
-/
import Derived.Test.YtjiibjbbbglpeaaCPc
namespace Go.Proofs.Ytjiibjbbbglpeaa
open Go.RowKit Crc

theorem new_str (w : World) : StrAt (w.alloc (.cells #[.int .u64 0, .int .u32 0] 28)) w.heap.size 0 0 0 := by
  have hg := heap_alloc_new w (.cells #[.int .u64 0, .int .u32 0] 28)
  refine ⟨?_, ?_, ?_, ?_, by simp⟩
  · rw [cell_of_row _ _ _ _ _ _ hg]; rfl
  · rw [cell_of_row _ _ _ _ _ _ hg]; rfl
  · unfold World.frozen?; rw [hg]; rfl
  · unfold World.frozen?; rw [hg]; rfl
theorem sum_nil (w : World) : Calls Try.prog 19 #[.slice none 0 0] w fun e w' => e = .returned (.int .u32 0) ∧ Below w.heap.size w w' :=
  sum_any none 0 0 (fun _ => 0) w (fun j hj => absurd hj (by omega)) (fun j hj => absurd hj (by omega)) (by omega)
theorem nums_below {B : Nat} {w w' : World} {a : Option Addr} {n : Nat} {L : Nat → Nat} (h : Nums w .u8 a n L) (hB : w.heap.size = B) (hb : Below B w w') : Nums w' .u8 a n L := by subst hB; exact h.later hb
theorem more_none (L : Nat → Nat) (M : Nat → Nat → Nat) : moreN 0 (pcs L M 0) (tot L 0) = 0 := by
  show moreN 0 _ 0 = 0
  unfold moreN
  rw [reg_zero]
set_option maxHeartbeats 4000000 in
set_option maxRecDepth 20000 in
theorem walk_checkPieces (w : World) (a0 : Option Addr) (n c : Nat) (A : Nat → Option Addr) (L C : Nat → Nat) (M : Nat → Nat → Nat) (hA : PcArg w a0 n A L C M) :
    Calls Try.prog 4 #[.slice a0 n c] w fun e w' => e = .returned (.bool true) ∧ Below w.heap.size w w' := by
  have hn := hA.len
  have PA := hid hA
  obtain ⟨w0, hw0⟩ : ∃ w0, w.alloc (.cells #[.int .u64 0, .int .u32 0] 28) = w0 := ⟨_, rfl⟩
  have S0 := hid (hw0 ▸ new_str w)
  have B0 : Hid (Below w.heap.size w w0) := hw0 ▸ below_new w _
  obtain ⟨gs, hgs⟩ : ∃ gs, w.heap.size = gs := ⟨_, rfl⟩
  have HGS := hid hgs
  clear hA
  go_enter Try.func4, Try.ntmps4
  rw [hgs] at S0 B0
  go_wp2_with fail
  refine (sum_nil _).mono ?_
  rintro e w1 ⟨rfl, b1⟩
  have S1 := hid (S0.out.later b1)
  have hgs1 : gs + 1 ≤ w1.heap.size := S1.out.lt
  have B1 := hid (B0.out.trans (b1.mono (Nat.le_of_lt S0.out.lt)))
  clear b1 S0 B0 hw0 hgs
  go_wp2_with fail
  go_loopw [3, 5, 6] (fun v mo y wr => ∃ i : Nat, i ≤ n ∧ y = .int .i64 i ∧ mo = .int .u32 ((moreN 0 (pcs L M i) (tot L i) : Nat) : Int) ∧ Hid (Own wr (gs + 1) 5 .u8 v (tot L i) (pcs L M i)) ∧ Hid (StrAt wr gs 0 (tot L i) (moreN 0 (pcs L M i) (tot L i))) ∧ Hid (Below gs w wr)) (fun _ _ y _ => n - (intOf y).toNat)
  case atStart => exact ⟨0, Nat.zero_le _, rfl, by rw [more_none]; rfl, Own.nil _ _ _ _ _, by rw [more_none]; exact S1, B1⟩
  case round =>
    clear S1 B1 hgs1
    obtain ⟨i, hi, rfl, rfl, HO, HS, HB⟩ := hrel
    by_cases hlt : i < n
    · have hii : (i : Int) < (n : Int) := by omega
      obtain ⟨g0, o0, rfl, hg0, hc0⟩ := PA.out.cell i hlt
      have hce : ∀ W, Below gs w W → W.cell? ⟨g0, o0 + i, none⟩ = some (.slice (A i) (L i) (C i)) := fun W h => (h.cell (p := ⟨g0, o0 + i, none⟩) (by rw [← HGS.out]; exact hg0)).trans hc0
      have htot : tot L i + L i ≤ 1048576 := Nat.le_trans (tot_le (L := L) (show i + 1 ≤ n by omega)) PA.out.all
      have hLC := PA.out.le i hlt
      obtain ⟨v2, w2, hr2, ho2, hgr2, _⟩ := run_many (w := wr) (t := 30) (ty := 30) (c := C i) Try.underlying30 infoU8 HO.out (nums_below (PA.out.nums i hlt) HGS.out HB.out) (PA.out.nil i hlt) (by omega) (by omega) HS.out.lt
      have hne : ∀ q, u3.ownBlock = some q → gs + 1 ≤ q := fun q hq => (HO.out.lt q hq).1
      have b2 : Below gs w w2 := HB.out.grown hgr2 (Nat.le_of_lt HS.out.lt) (fun q hq => by have := hne q hq; omega)
      have s2 : StrAt w2 gs 0 (tot L i) (moreN 0 (pcs L M i) (tot L i)) := HS.out.kept (hgr2.block gs HS.out.lt (fun e => by have := hne gs e.symm; omega)) hgr2.size
      have R2 := hid hr2
      have O2 : Hid (Own w2 (gs + 1) 5 .u8 v2 (tot L (i + 1)) (pcs L M (i + 1))) := ho2
      have S2 := hid s2
      have B2 := hid b2
      have cr := hce wr HB.out
      have c2 := hce w2 b2
      clear hc0 hr2 ho2 hgr2 hne b2 s2 HO HS HB
      go_wp2_with (at_builtin; refine wpList_app (by rfl) (by rfl) R2.out ?_; clear R2)
      refine (more_any (moreN 0 (pcs L M i) (tot L i)) (A i) (L i) (C i) (M i) w2 (moreN_lt _ _ _) (nums_below (PA.out.nums i hlt) HGS.out B2.out) (fun j _ => PA.out.lt i hlt j) (by omega)).mono ?_
      rintro e w3 ⟨rfl, b3⟩
      have HMC : Hid (moreN (moreN 0 (pcs L M i) (tot L i)) (M i) (L i) = moreN 0 (pcs L M (i + 1)) (tot L (i + 1))) := more_cat (fun j _ => pcs_lt (fun r hr => PA.out.lt r (by omega)) j)
      rw [HMC.out]
      have hs2 := S2.out.lt
      have S3 := hid (S2.out.later b3)
      have O3 := hid (O2.out.later b3)
      have B3 := hid (B2.out.trans (b3.mono (Nat.le_of_lt hs2)))
      have c3 := hce w3 B3.out
      clear cr c2 b3 S2 O2 B2
      go_wp2_with fail
      refine (sWrite_any gs 0 _ _ (A i) (L i) (C i) (M i) w3 S3.out (moreN_lt _ _ _) (nums_below (PA.out.nums i hlt) HGS.out B3.out) (fun j _ => PA.out.lt i hlt j) (by omega)).mono ?_
      rintro e w5 ⟨rfl, w4, b4, hw5⟩
      rw [HMC.out, show (tot L i + L i) % 18446744073709551616 = tot L (i + 1) by rw [Nat.mod_eq_of_lt (by omega)]; rfl] at hw5
      have S5 : Hid (StrAt w5 gs 0 (tot L (i + 1)) (moreN 0 (pcs L M (i + 1)) (tot L (i + 1)))) := by rw [hw5]; exact wrote_at (S3.out.later b4) _ _
      have O5 : Hid (Own w5 (gs + 1) 5 .u8 v2 (tot L (i + 1)) (pcs L M (i + 1))) := by
        rw [hw5]
        exact (O3.out.later b4).kept fun q hq => wrote_off _ _ _ _ _ _ (by have := (O3.out.lt q hq).1; omega)
      have B5 : Hid (Below gs w w5) := by rw [hw5]; exact wrote_below (B3.out.trans (b4.mono (Nat.le_of_lt S3.out.lt))) (Nat.le_refl _) _ _ _
      clear hw5 b4 S3 O3 B3 c3 hce hs2
      go_wp2_with fail
      exact ⟨⟨i + 1, by omega, by go_num, rfl, O5, S5, B5⟩, by simp [intOf]; omega⟩
    · have hgt : ¬ ((i : Int) < (n : Int)) := by omega
      obtain ⟨a1, c1, hv, hnc, hcm, _⟩ := HO.out.form
      subst hv
      have htot : tot L i ≤ 1048576 := Nat.le_trans (tot_le (L := L) hi) PA.out.all
      have hpl : ∀ j, pcs L M i j < 256 := pcs_lt (fun r hr => PA.out.lt r (by omega))
      have HPl := hid hpl
      clear hpl
      generalize tot L i = T at *
      go_wp2_with fail
      refine (sum_any a1 T c1 (pcs L M i) wr HO.out.nums (fun j _ => HPl.out j) (by omega)).mono ?_
      rintro e w2 ⟨rfl, b2⟩
      have S2 := hid (HS.out.later b2)
      have B2 := hid (HB.out.trans (b2.mono (Nat.le_of_lt HS.out.lt)))
      clear b2 HS HB HO
      generalize moreN 0 (pcs L M i) T = Y at *
      have hyy : ((Y : Int) == (Y : Int)) = true := by simp
      have htt : ((T : Int) == (T : Int)) = true := by simp
      go_wp2_with fail
      refine (known_any w2).mono ?_
      rintro e w3 ⟨rfl, b3⟩
      have S3 := hid (S2.out.later b3)
      have B3 := hid (B2.out.trans (b3.mono (Nat.le_of_lt S2.out.lt)))
      clear b3 S2 B2
      go_wp2_with (first | (go_at_call 13; refine (sSum_any _ _ _ _ _ S3.out).mono ?_; rintro e wx ⟨rfl, rfl⟩) | (go_at_call 15; refine (sLen_any _ _ _ _ _ S3.out).mono ?_; rintro e wx ⟨rfl, rfl⟩))
      go_ret
      exact ⟨rfl, by rw [HGS.out]; exact B3.out⟩
end Go.Proofs.Ytjiibjbbbglpeaa
