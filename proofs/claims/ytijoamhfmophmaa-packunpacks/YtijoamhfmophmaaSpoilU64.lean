/-
  spoil, of the kind uint64.
-/
import Derived.Test.YtijoamhfmophmaaInfo
namespace Go.Proofs.Ytijoamhfmophmaa
open Go.RowKit

theorem grown_setU64 {w wr : World} {g i : Nat} {u : Value} (h : w.grownBy wr (some g)) : w.grownBy (wr.setCell ⟨g, i, none⟩ u) (some g) :=
  ⟨h.os, h.tape, h.output, by simp [World.setCell]; exact h.size, fun k hk hne => by
    rw [Below.heap_setCell _ _ _ _ (fun e => hne (by rw [e]))]; exact h.block k hk hne⟩

set_option maxHeartbeats 1000000 in
set_option maxRecDepth 20000 in
theorem spoilU64_any (v : Value) (m : Nat) (B : Nat) (F : Nat → Nat) (w : World) (hm : m ≤ 134217728) (hB : B ≤ w.heap.size) (hF : ∀ j, F j < 18446744073709551616) (hO : Own w B 22 .u64 v m F) :
    Calls Try.prog 61 #[v] w fun e w' => e = .returned (.tuple #[]) ∧ w.grownBy w' v.ownBlock := by
  obtain ⟨a0, c, hv, hc, hcm, ha⟩ := hO.form
  simp only [maxLen] at hcm
  have HO0 : Hid (Own w B 22 .u64 v m F) := hO
  have HV : Hid (v = .slice a0 m c) := hv
  have HOB : Hid (∀ g, a0 = some ⟨g, 0, none⟩ → v.ownBlock = some g) := fun g e => by rw [hv, e]; rfl
  have HLT : Hid (∀ j, v.ownBlock = some j → j < w.heap.size) := fun j hj => (hO.lt j hj).2
  have HF : Hid (∀ j, F j < 18446744073709551616) := hF
  generalize hr : v.ownBlock = row at *
  clear hr hO ha hF
  rw [hv]
  clear hv
  go_enter Try.func61, Try.ntmps61
  go_wp2
  go_loopw [2] (fun ix wr => ∃ (i : Nat) (F' : Nat → Nat), i ≤ m ∧ ix = .int .i64 i ∧ Own wr B 22 .u64 (.slice a0 m c) m F' ∧ (∀ j, F' j < 18446744073709551616) ∧ w.grownBy wr row) (fun ix _ => m - (intOf ix).toNat)
  case atStart => exact ⟨0, F, Nat.zero_le _, rfl, by rw [← HV.out]; exact HO0.out, HF.out, World.grownBy.refl _ _⟩
  case round =>
    obtain ⟨i, F', hi, rfl, hO, hF', hG⟩ := hrel
    clear HO0 HF
    by_cases hlt : i < m
    · rcases hO.blk with ⟨_, h0⟩ | ⟨g, c', hv, hg1, hg2, hcm', hb⟩
      · omega
      simp only [Value.slice.injEq, true_and] at hv
      obtain ⟨rfl, rfl⟩ := hv
      obtain rfl := HOB.out g rfl
      have hcell := hb.cell hlt
      have hfz := hb.frozen i
      have hFi := hF' i
      have hxor := u64_xor_nat (F' i) 85 hFi (by omega)
      have hzl : F' i ^^^ 85 < 18446744073709551616 := Nat.xor_lt_two_pow (n := 64) hFi (by omega)
      have HST : Hid (Own (wr.setCell ⟨g, i, none⟩ (.int .u64 ((F' i ^^^ 85 : Nat) : Int))) B 22 .u64 (.slice (some ⟨g, 0, none⟩) m c) m (upd F' i (F' i ^^^ 85))) := (hb.store i (F' i ^^^ 85)).own hg1 (Nat.le_refl _) hcm'
      have HU : Hid (∀ j, upd F' i (F' i ^^^ 85) j < 18446744073709551616) := fun j => by unfold upd; split; exact hzl; exact hF' j
      have HG : Hid (w.grownBy wr (some g)) := hG
      have HMM : Hid (∀ z : Nat, F' i ^^^ 85 = z → Own (wr.setCell ⟨g, i, none⟩ (.int .u64 (z : Int))) B 22 .u64 (.slice (some ⟨g, 0, none⟩) m c) m (upd F' i z) ∧ ∀ j, upd F' i z j < 18446744073709551616) := fun z hz => by subst hz; exact ⟨HST.out, HU.out⟩
      rw [show (((85 : Nat) : Int)) = (85 : Int) from rfl] at hxor
      clear hO hb hF' hG HST HU hzl
      generalize hz : F' i ^^^ 85 = z at *
      have HMZ := HMM.out z rfl
      have HM2 : Hid (Own (wr.setCell ⟨g, i, none⟩ (.int .u64 (z : Int))) B 22 .u64 (.slice (some ⟨g, 0, none⟩) m c) m (upd F' i z) ∧ ∀ j, upd F' i z j < 18446744073709551616) := HMZ
      clear hz HMM HMZ
      generalize F' i = x at *
      go_wp2
      exact ⟨⟨i + 1, upd F' i z, by omega, by go_num, HM2.out.1, HM2.out.2, grown_setU64 HG.out⟩, by simp [intOf]; omega⟩
    · have HO1 : Hid (Own wr B 22 .u64 (.slice a0 m c) (m + 0) F') := hO
      have HG1 : Hid (w.grownBy wr row) := hG
      have HR1 : Hid (∀ j, (Value.slice a0 m c).ownBlock = some j → row = some j ∨ w.heap.size ≤ j) := fun j hj => by
        rcases hO.blk with ⟨hv, _⟩ | ⟨g, c', hv, _⟩
        · rw [hv] at hj; simp [Value.ownBlock] at hj
        · simp only [Value.slice.injEq, true_and] at hv
          obtain ⟨rfl, rfl⟩ := hv
          simp only [Value.ownBlock, Option.some.injEq] at hj
          subst hj
          exact .inl (HOB.out g rfl)
      clear hO hG hF'
      go_wp2
      go_loopw [0, 3] (fun u ix ws => ∃ (k : Nat) (M : Nat → Nat), k ≤ 66 ∧ ix = .int .i64 k ∧ Own ws B 22 .u64 u (m + k) M ∧ (∀ j, u.ownBlock = some j → row = some j ∨ w.heap.size ≤ j) ∧ w.grownBy ws row) (fun _ ix _ => 66 - (intOf ix).toNat)
      case atStart => exact ⟨0, F', Nat.zero_le _, rfl, HO1.out, HR1.out, HG1.out⟩
      case round =>
        obtain ⟨k, M, hk, rfl, hO, hR, hG⟩ := hrel
        clear HO1 HR1 HG1
        by_cases hlt2 : k < 66
        · have hO' : Own wr B 22 .u64 u0 (m + k) (upd M (m + k) (7 + k)) := hO.ext fun j hj => by unfold upd; rw [if_neg (by omega)]
          obtain ⟨g, c', w2, hr2, hO2, hB2, hgr, hat⟩ := run_one (t := 31) (ty := 31) Try.underlying31 infoU64 hO' (by omega) (by omega) (Nat.le_trans hB hG.size) (7 + (k : Int)) (by simp [upd])
          have HR2 : Hid ((Builtin.append_ #[31, 31] 31 #[u0, .slice (some ⟨wr.heap.size, 0, none⟩) 1 1]).run Try.prog (wr.alloc (.cells #[.int .u64 (7 + (k : Int))] 22)) = .ok (.slice (some ⟨g, 0, none⟩) (m + k + 1) c') w2) := hr2
          have HO2 : Hid (Own w2 B 22 .u64 (.slice (some ⟨g, 0, none⟩) (m + k + 1) c') (m + k + 1) (upd M (m + k) (7 + k))) := hO2
          have hsz := hG.size
          have HR3 : Hid (∀ j, (Value.slice (some ⟨g, 0, none⟩) (m + k + 1) c').ownBlock = some j → row = some j ∨ w.heap.size ≤ j) := fun j hj => by
            simp only [Value.ownBlock, Option.some.injEq] at hj
            subst hj
            rcases hat with h | h
            · exact hR g h
            · exact .inr (by omega)
          have HG2 : Hid (w.grownBy w2 row) := ⟨hgr.os.trans hG.os, hgr.tape.trans hG.tape, hgr.output.trans hG.output, by have := hgr.size; simp at this; omega, fun j hj hne => by
            have h1 : w2.heap[j]? = (wr.alloc (.cells #[.int .u64 (7 + (k : Int))] 22)).heap[j]? := hgr.block j (by simp; omega) (fun e => by
              rcases hR j e.symm with h | h
              · exact hne h.symm
              · omega)
            rw [h1, Below.heap_alloc _ _ _ (by omega)]
            exact hG.block j hj hne⟩
          clear hO hO' hR hG hO2 hr2 hgr hat hB2 hsz
          go_wp2_with (at_builtin; refine wpList_app (by rfl) (by rfl) HR2.out ?_)
          exact ⟨⟨k + 1, upd M (m + k) (7 + k), by omega, by go_num, by rw [← Nat.add_assoc]; exact HO2.out, HR3.out, HG2.out⟩, by simp [intOf]; omega⟩
        · clear hO hR
          go_wp2
          go_end0
          exact ⟨rfl, hG⟩
end Go.Proofs.Ytijoamhfmophmaa
