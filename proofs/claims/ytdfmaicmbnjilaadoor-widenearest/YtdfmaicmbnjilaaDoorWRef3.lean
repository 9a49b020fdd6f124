/-
  The document's digits: add.
-/
import Derived.Test.YtdfmaicmbnjilaaDoorWRef1
namespace Go.Proofs.YtdfmaicmbnjilaaDoor
open Go.RowKit Wd

/-- One behind the greatest number of so many digits. -/
def top24 : Nat := 65536 ^ 24
/-- Adding digit by digit. -/
theorem add_step {a b c s i x y k : Nat} (h : c + k * 65536 ^ i = a + b) (hs : s = x + y + k) : c + s % 65536 * 65536 ^ i + s / 65536 * 65536 ^ (i + 1) = a + x * 65536 ^ i + (b + y * 65536 ^ i) := by
  have e : s % 65536 * 65536 ^ i + s / 65536 * 65536 ^ (i + 1) = s * 65536 ^ i := by
    rw [Nat.pow_succ, Nat.mul_comm (65536 ^ i) 65536, ← Nat.mul_assoc, ← Nat.add_mul]
    congr 1
    omega
  rw [hs, Nat.add_mul, Nat.add_mul] at e
  rw [hs]
  generalize 65536 ^ i = p at *
  generalize (x + y + k) % 65536 * p = q1 at *
  generalize (x + y + k) / 65536 * 65536 ^ (i + 1) = q2 at *
  generalize x * p = q3 at *
  generalize y * p = q4 at *
  generalize k * p = q5 at *
  omega
set_option maxRecDepth 8000 in
set_option maxHeartbeats 1600000 in
theorem rAdd (ga gb : Nat) (A B : Nat → Nat) (w : World) (hA : DB w ga A) (hB : DB w gb B) (dA : Dig A) (dB : Dig B) (hs : dv A 24 + dv B 24 < top24) : Calls Tryd.prog 38 #[.slice (some ⟨ga, 0, none⟩) 24 24, .slice (some ⟨gb, 0, none⟩) 24 24] w fun e w' => ∃ C, e = .returned (.slice (some ⟨w.heap.size, 0, none⟩) 24 24) ∧ DB w' w.heap.size C ∧ Dig C ∧ dv C 24 = dv A 24 + dv B 24 ∧ Below w.heap.size w w' := by
  have HA := hid hA
  have HB := hid hB
  have HS := hid hs
  clear hA hB hs
  go_enter Tryd.func38, Tryd.ntmps38
  go_wp2_with fail
  refine (rZero _).mono ?_
  rintro e w1 ⟨rfl, X1, b1⟩
  have HX1 := hid X1
  have HB1 := hid b1
  clear X1 b1
  go_wp2_with fail
  go_loopw [6, 7] (fun cx ix wr => ∃ (i k : Nat) (C : Nat → Nat), i ≤ 24 ∧ ix = .int .i64 i ∧ cx = .int .u32 k ∧ k ≤ 1 ∧ Hid (DB wr w.heap.size C) ∧ Hid (Dig C) ∧ Hid (dv C i + k * 65536 ^ i = dv A i + dv B i) ∧ Hid (Below w.heap.size w wr)) (fun _ ix _ => 24 - (intOf ix).toNat)
  case atStart => exact ⟨0, 0, fun _ => 0, by omega, rfl, rfl, by omega, HX1, fun _ => Nat.succ_pos 65535, rfl, HB1⟩
  case round =>
    rename World => wr
    obtain ⟨i, k, C, hi', rfl, rfl, hk, HC, HD, HE, HW⟩ := hrel
    by_cases hlt : i < 24
    · have hii : (i : Int) < 24 := by omega
      have ca := (HA.out.later HW.out HA.out.lt).cell hlt
      have cb := (HB.out.later HW.out HB.out.lt).cell hlt
      have xa := dA i
      have xb := dB i
      obtain ⟨s, hs⟩ : ∃ s, s = A i + B i + k := ⟨_, rfl⟩
      obtain ⟨t1, ht1⟩ : ∃ t1, t1 = A i + B i := ⟨_, rfl⟩
      have e0 : ((A i : Nat) : Int) + ((B i : Nat) : Int) = (t1 : Int) := by omega
      have e1 : (t1 : Int) + (k : Int) = (s : Int) := by omega
      have hsl : s < 4294967296 := by omega
      have htl : t1 < 4294967296 := by omega
      obtain ⟨r, hr⟩ : ∃ r, r = s % 65536 := ⟨_, rfl⟩
      obtain ⟨q, hq⟩ : ∃ q, q = s / 65536 := ⟨_, rfl⟩
      have er : (s : Int) % 65536 = (r : Int) := by omega
      have eq : (s : Int) / 65536 = (q : Int) := by omega
      have hrl : r < 65536 := by omega
      have hql : q ≤ 1 := by omega
      have HE2 : Hid (dv (upd C i r) (i + 1) + q * 65536 ^ (i + 1) = dv A (i + 1) + dv B (i + 1)) := by
        show dv (upd C i r) i + upd C i r i * 65536 ^ i + q * 65536 ^ (i + 1) = _
        rw [show dv (upd C i r) i = dv C i from dv_upd, show upd C i r i = r by simp [upd], hr, hq]
        exact add_step HE.out hs
      have HD2 : Hid (Dig (upd C i r)) := fun j => by
        unfold upd; split
        · exact hrl
        · exact HD.out j
      have fz := HC.out.frozen i
      have cc := HC.out.cell hlt
      have HC2 : Hid (∀ n, Blk ((wr.drewN n).setCell ⟨w.heap.size, i, none⟩ (.int .u32 (r : Int))) w.heap.size 69 .u32 24 24 (upd C i r)) := fun n => (HC.out.same (w' := wr.drewN n) rfl).store i r
      have HW2 : Hid (∀ n, Below w.heap.size w ((wr.drewN n).setCell ⟨w.heap.size, i, none⟩ (.int .u32 (r : Int)))) := fun n => (below_drewN HW.out n).setCell (Nat.le_refl _) _
      clear hs ht1 hr hq xa xb
      generalize ((A i : Nat) : Int) = x at *
      generalize ((B i : Nat) : Int) = y at *
      generalize ((C i : Nat) : Int) = z at *
      go_wp2_with fail
      go_quiet (fail)
      go_wp2_with fail
      exact ⟨⟨i + 1, q, upd C i r, by omega, by go_num, rfl, hql, HC2.out _, HD2, HE2, HW2.out _⟩, by simp [intOf]; omega⟩
    · obtain rfl : i = 24 := by omega
      have hf : k = 0 := by
        have h1 : dv C 24 + k * top24 = dv A 24 + dv B 24 := HE.out
        have h2 := HS.out
        generalize top24 = P at *
        rcases Nat.eq_zero_or_pos k with e | e
        · exact e
        · obtain rfl : k = 1 := by omega
          omega
      subst hf
      go_wp2_with fail
      go_ret
      exact ⟨C, rfl, HC.out, HD.out, by have h1 : dv C 24 + 0 * top24 = dv A 24 + dv B 24 := HE.out; omega, HW.out⟩
theorem take_step {a b c i x y k r q : Nat} (h : c + b = a + k * 65536 ^ i) (hs : r + y + k = x + q * 65536) : c + r * 65536 ^ i + (b + y * 65536 ^ i) = a + x * 65536 ^ i + q * 65536 ^ (i + 1) := by
  have e := congrArg (· * 65536 ^ i) hs
  simp only [Nat.add_mul] at e
  rw [Nat.pow_succ, Nat.mul_comm (65536 ^ i) 65536, ← Nat.mul_assoc]
  generalize r * 65536 ^ i = q1 at *
  generalize y * 65536 ^ i = q2 at *
  generalize x * 65536 ^ i = q3 at *
  generalize q * 65536 * 65536 ^ i = q4 at *
  generalize k * 65536 ^ i = q5 at *
  omega
set_option maxRecDepth 8000 in
set_option maxHeartbeats 1600000 in
theorem rTake (ga gb : Nat) (A B : Nat → Nat) (w : World) (hA : DB w ga A) (hB : DB w gb B) (dA : Dig A) (dB : Dig B) (hs : dv B 24 ≤ dv A 24) : Calls Tryd.prog 39 #[.slice (some ⟨ga, 0, none⟩) 24 24, .slice (some ⟨gb, 0, none⟩) 24 24] w fun e w' => ∃ C, e = .returned (.slice (some ⟨w.heap.size, 0, none⟩) 24 24) ∧ DB w' w.heap.size C ∧ Dig C ∧ dv C 24 = dv A 24 - dv B 24 ∧ Below w.heap.size w w' := by
  have HA := hid hA
  have HB := hid hB
  have HS := hid hs
  clear hA hB hs
  go_enter Tryd.func39, Tryd.ntmps39
  go_wp2_with fail
  refine (rZero _).mono ?_
  rintro e w1 ⟨rfl, X1, b1⟩
  have HX1 := hid X1
  have HB1 := hid b1
  clear X1 b1
  go_wp2_with fail
  go_loopw [6, 7] (fun cx ix wr => ∃ (i k : Nat) (C : Nat → Nat), i ≤ 24 ∧ ix = .int .i64 i ∧ cx = .int .u32 k ∧ k ≤ 1 ∧ Hid (DB wr w.heap.size C) ∧ Hid (Dig C) ∧ Hid (dv C i + dv B i = dv A i + k * 65536 ^ i) ∧ Hid (Below w.heap.size w wr)) (fun _ ix _ => 24 - (intOf ix).toNat)
  case atStart => exact ⟨0, 0, fun _ => 0, by omega, rfl, rfl, by omega, HX1, fun _ => Nat.succ_pos 65535, rfl, HB1⟩
  case round =>
    rename World => wr
    obtain ⟨i, k, C, hi', rfl, rfl, hk, HC, HD, HE, HW⟩ := hrel
    by_cases hlt : i < 24
    · have hii : (i : Int) < 24 := by omega
      have ca := (HA.out.later HW.out HA.out.lt).cell hlt
      have cb := (HB.out.later HW.out HB.out.lt).cell hlt
      have xa := dA i
      have xb := dB i
      obtain ⟨s, hs⟩ : ∃ s, s = 65536 + A i - B i - k := ⟨_, rfl⟩
      obtain ⟨t0, ht0⟩ : ∃ t0, t0 = 65536 + A i := ⟨_, rfl⟩
      obtain ⟨t1, ht1⟩ : ∃ t1, t1 = 65536 + A i - B i := ⟨_, rfl⟩
      have e00 : 65536 + ((A i : Nat) : Int) = (t0 : Int) := by omega
      have e0 : (t0 : Int) - ((B i : Nat) : Int) = (t1 : Int) := by omega
      have e1 : (t1 : Int) - (k : Int) = (s : Int) := by omega
      have ht0l : t0 < 4294967296 := by omega
      have hsl : s < 4294967296 := by omega
      have htl : t1 < 4294967296 := by omega
      obtain ⟨r, hr⟩ : ∃ r, r = s % 65536 := ⟨_, rfl⟩
      obtain ⟨q, hq⟩ : ∃ q, q = s / 65536 := ⟨_, rfl⟩
      have er : (s : Int) % 65536 = (r : Int) := by omega
      have eq : (s : Int) / 65536 = (q : Int) := by omega
      have hrl : r < 65536 := by omega
      have hql0 : q ≤ 1 := by omega
      obtain ⟨q', hq'⟩ : ∃ q', q' = 1 - q := ⟨_, rfl⟩
      have eq' : (1 : Int) - (q : Int) = (q' : Int) := by omega
      have hql : q' ≤ 1 := by omega
      have HE2 : Hid (dv (upd C i r) (i + 1) + dv B (i + 1) = dv A (i + 1) + q' * 65536 ^ (i + 1)) := by
        show dv (upd C i r) i + upd C i r i * 65536 ^ i + (dv B i + B i * 65536 ^ i) = dv A i + A i * 65536 ^ i + _
        rw [show dv (upd C i r) i = dv C i from dv_upd, show upd C i r i = r by simp [upd]]
        exact take_step HE.out (show r + B i + k = A i + q' * 65536 by omega)
      have HD2 : Hid (Dig (upd C i r)) := fun j => by
        unfold upd; split
        · exact hrl
        · exact HD.out j
      have fz := HC.out.frozen i
      have cc := HC.out.cell hlt
      have HC2 : Hid (∀ n, Blk ((wr.drewN n).setCell ⟨w.heap.size, i, none⟩ (.int .u32 (r : Int))) w.heap.size 69 .u32 24 24 (upd C i r)) := fun n => (HC.out.same (w' := wr.drewN n) rfl).store i r
      have HW2 : Hid (∀ n, Below w.heap.size w ((wr.drewN n).setCell ⟨w.heap.size, i, none⟩ (.int .u32 (r : Int)))) := fun n => (below_drewN HW.out n).setCell (Nat.le_refl _) _
      clear hs ht0 ht1 hr hq hq' xa xb
      generalize ((A i : Nat) : Int) = x at *
      generalize ((B i : Nat) : Int) = y at *
      generalize ((C i : Nat) : Int) = z at *
      go_wp2_with fail
      go_quiet (fail)
      go_wp2_with fail
      exact ⟨⟨i + 1, q', upd C i r, by omega, by go_num, rfl, hql, HC2.out _, HD2, HE2, HW2.out _⟩, by simp [intOf]; omega⟩
    · obtain rfl : i = 24 := by omega
      have hf : k = 0 := by
        have h1 := HE.out
        have h2 := HS.out
        have h3 := dv_lt HD.out 24
        generalize 65536 ^ 24 = P at *
        rcases Nat.eq_zero_or_pos k with e | e
        · exact e
        · obtain rfl : k = 1 := by omega
          omega
      subst hf
      go_wp2_with fail
      go_ret
      exact ⟨C, rfl, HC.out, HD.out, by have h1 := HE.out; rw [Nat.zero_mul] at h1; omega, HW.out⟩
end Go.Proofs.YtdfmaicmbnjilaaDoor
