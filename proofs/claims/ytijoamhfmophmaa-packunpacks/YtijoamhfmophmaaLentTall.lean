/-
  lent, wider, kept, of the kind colonnade/colonnadelaw02.tall.
-/
import Derived.Test.YtijoamhfmophmaaInfo
namespace Go.Proofs.Ytijoamhfmophmaa
open Go.RowKit

set_option maxHeartbeats 1000000 in
set_option maxRecDepth 20000 in
theorem lentTall_any (a0 : Option Addr) (n c : Nat) (L : Nat → Nat) (w : World) (hn : n ≤ 17592186043904) (hL : ∀ j, L j < 18446744073709551616) (hN : Nums w .u64 a0 n L) :
    Calls Try.prog 56 #[.slice a0 n c] w fun e w' => ∃ g c', e = .returned (.slice (some ⟨g, 0, none⟩) n c') ∧ w.heap.size ≤ g ∧ c' ≤ maxLen ∧ Blk w' g 35 .u16 c' (n + 66) (cat n (fun j => L j % 65536) mark100) ∧ Below w.heap.size w w' := by
  have HL : Hid (∀ j, L j < 18446744073709551616) := hL
  have HN : Hid (Nums w .u64 a0 n L) := hN
  clear hL hN
  go_enter Try.func56, Try.ntmps56
  go_wp2
  go_loopw [3, 4] (fun v ix wr => ∃ i : Nat, i ≤ n ∧ ix = .int .i64 i ∧ Own wr w.heap.size 35 .u16 v i (cat n (fun j => L j % 65536) mark100) ∧ Below w.heap.size w wr) (fun _ ix _ => n - (intOf ix).toNat)
  case atStart => exact ⟨0, Nat.zero_le _, rfl, Own.nil _ _ _ _ _, Below.refl _ _⟩
  case round =>
    obtain ⟨i, hi1, rfl, hO, hB⟩ := hrel
    by_cases hlt : i < n
    · obtain ⟨g0, o0, rfl, hg0, hc0⟩ := HN.out i hlt
      have hcell : wr.cell? ⟨g0, o0 + i, none⟩ = some (.int .u64 (L i : Int)) := (hB.cell (p := ⟨g0, o0 + i, none⟩) hg0).trans hc0
      have hLi := HL.out i
      have hconv : IntKind.u16.wrap (L i : Int) = ((L i % 65536 : Nat) : Int) := by rw [IntKind.wrap_u16]; omega
      obtain ⟨g, c', w2, hr2, hO2, hB2, _⟩ := run_one (t := 74) (ty := 74) Try.underlying74 infoTall hO (by omega) (by omega) hB.size ((L i % 65536 : Nat) : Int) (by rw [cat_in hlt])
      have HR2 : Hid ((Builtin.append_ #[74, 74] 74 #[u3, .slice (some ⟨wr.heap.size, 0, none⟩) 1 1]).run Try.prog (wr.alloc (.cells #[.int .u16 ((L i % 65536 : Nat) : Int)] 35)) = .ok (.slice (some ⟨g, 0, none⟩) (i + 1) c') w2) := hr2
      have HO2 : Hid (Own w2 w.heap.size 35 .u16 (.slice (some ⟨g, 0, none⟩) (i + 1) c') (i + 1) (cat n (fun j => L j % 65536) mark100)) := hO2
      have HB2 : Hid (Below w.heap.size w w2) := hB.trans hB2
      have hzl : L i % 65536 < 65536 := Nat.mod_lt _ (by omega)
      generalize L i % 65536 = z at *
      clear hO hO2 hB2 hr2 hc0 hB
      generalize L i = x at *
      go_wp2_with (at_builtin; refine wpList_app (by rfl) (by rfl) HR2.out ?_)
      exact ⟨⟨i + 1, by omega, by go_num, HO2.out, HB2.out⟩, by simp [intOf]; omega⟩
    · obtain rfl : i = n := by omega
      have HO : Hid (Own wr w.heap.size 35 .u16 u3 (i + 0) (cat i (fun j => L j % 65536) mark100)) := hO
      have HB : Hid (Below w.heap.size w wr) := hB
      clear hO hB
      go_wp2
      go_loopw [3, 5] (fun v ix ws => ∃ k : Nat, k ≤ 66 ∧ ix = .int .i64 k ∧ Own ws w.heap.size 35 .u16 v (i + k) (cat i (fun j => L j % 65536) mark100) ∧ Below w.heap.size w ws) (fun _ ix _ => 66 - (intOf ix).toNat)
      case atStart => exact ⟨0, Nat.zero_le _, rfl, HO.out, HB.out⟩
      case round =>
        obtain ⟨k, hk, rfl, hO, hB⟩ := hrel
        clear HO HB
        by_cases hlt2 : k < 66
        · obtain ⟨g, c', w2, hr2, hO2, hB2, _⟩ := run_one (t := 74) (ty := 74) Try.underlying74 infoTall hO (by omega) (by omega) hB.size (100 + (k : Int)) (by rw [cat_at]; simp [mark100])
          have HR2 : Hid ((Builtin.append_ #[74, 74] 74 #[u3, .slice (some ⟨wr.heap.size, 0, none⟩) 1 1]).run Try.prog (wr.alloc (.cells #[.int .u16 (100 + (k : Int))] 35)) = .ok (.slice (some ⟨g, 0, none⟩) (i + k + 1) c') w2) := hr2
          have HO2 : Hid (Own w2 w.heap.size 35 .u16 (.slice (some ⟨g, 0, none⟩) (i + k + 1) c') (i + k + 1) (cat i (fun j => L j % 65536) mark100)) := hO2
          have HB2 : Hid (Below w.heap.size w w2) := hB.trans hB2
          clear hO hO2 hB2 hr2 hB
          go_wp2_with (at_builtin; refine wpList_app (by rfl) (by rfl) HR2.out ?_)
          exact ⟨⟨k + 1, by omega, by go_num, by rw [← Nat.add_assoc]; exact HO2.out, HB2.out⟩, by simp [intOf]; omega⟩
        · obtain rfl : k = 66 := by omega
          rcases hO.blk with ⟨_, h0⟩ | ⟨g, c', rfl, hg1, hg2, hcm, hb⟩
          · omega
          have hle := hb.le
          simp only [maxLen] at hcm
          have HB : Hid (Blk wr g 35 .u16 c' (i + 66) (cat i (fun j => L j % 65536) mark100)) := hb
          clear hO hb
          go_wp2
          go_ret
          exact ⟨g, c', rfl, hg1, by simp [maxLen]; omega, HB.out, hB⟩

set_option maxHeartbeats 1000000 in
set_option maxRecDepth 20000 in
theorem widerTall_any (a0 : Option Addr) (n c : Nat) (L : Nat → Nat) (w : World) (hn : n ≤ 17592186043904) (hL : ∀ j, L j < 65536) (hN : Nums w .u16 a0 n L) :
    Calls Try.prog 57 #[.slice a0 n c] w fun e w' => ∃ v, e = .returned v ∧ Own w' w.heap.size 22 .u64 v n L ∧ Below w.heap.size w w' := by
  have HL : Hid (∀ j, L j < 65536) := hL
  have HN : Hid (Nums w .u16 a0 n L) := hN
  clear hL hN
  go_enter Try.func57, Try.ntmps57
  go_wp2
  go_loopw [3, 4] (fun v ix wr => ∃ i : Nat, i ≤ n ∧ ix = .int .i64 i ∧ Own wr w.heap.size 22 .u64 v i L ∧ Below w.heap.size w wr) (fun _ ix _ => n - (intOf ix).toNat)
  case atStart => exact ⟨0, Nat.zero_le _, rfl, Own.nil _ _ _ _ _, Below.refl _ _⟩
  case round =>
    obtain ⟨i, hi1, rfl, hO, hB⟩ := hrel
    by_cases hlt : i < n
    · obtain ⟨g0, o0, rfl, hg0, hc0⟩ := HN.out i hlt
      have hcell : wr.cell? ⟨g0, o0 + i, none⟩ = some (.int .u16 (L i : Int)) := (hB.cell (p := ⟨g0, o0 + i, none⟩) hg0).trans hc0
      have hLi := HL.out i
      obtain ⟨g, c', w2, hr2, hO2, hB2, _⟩ := run_one (t := 31) (ty := 31) Try.underlying31 infoU64 hO (by omega) (by omega) hB.size (L i : Int) rfl
      have HR2 : Hid ((Builtin.append_ #[31, 31] 31 #[u3, .slice (some ⟨wr.heap.size, 0, none⟩) 1 1]).run Try.prog (wr.alloc (.cells #[.int .u64 (L i : Int)] 22)) = .ok (.slice (some ⟨g, 0, none⟩) (i + 1) c') w2) := hr2
      have HO2 : Hid (Own w2 w.heap.size 22 .u64 (.slice (some ⟨g, 0, none⟩) (i + 1) c') (i + 1) L) := hO2
      have HB2 : Hid (Below w.heap.size w w2) := hB.trans hB2
      clear hO hO2 hB2 hr2 hc0 hB
      generalize L i = x at *
      go_wp2_with (at_builtin; refine wpList_app (by rfl) (by rfl) HR2.out ?_)
      exact ⟨⟨i + 1, by omega, by go_num, HO2.out, HB2.out⟩, by simp [intOf]; omega⟩
    · obtain rfl : i = n := by omega
      have HO : Hid (Own wr w.heap.size 22 .u64 u3 i L) := hO
      clear hO
      go_wp2
      go_ret
      exact ⟨_, rfl, HO.out, hB⟩

set_option maxHeartbeats 1000000 in
set_option maxRecDepth 20000 in
theorem keptTall_yes (g n c : Nat) (a1 : Option Addr) (c1 : Nat) (L : Nat → Nat) (w : World) (hn : n ≤ 17592186043904) (hc : c ≤ 9223372036854775807) (hL : ∀ j, L j < 65536) (hb : Blk w g 35 .u16 c (n + 66) (cat n L mark100)) (hN : Nums w .u64 a1 n L) :
    Calls Try.prog 59 #[.slice (some ⟨g, 0, none⟩) n c, .slice a1 n c1] w fun e w' => e = .returned (.bool true) ∧ ∃ j, w' = w.drewN j := by
  have hle := hb.le
  have HB : Hid (Blk w g 35 .u16 c (n + 66) (cat n L mark100)) := hb
  have HL : Hid (∀ j, L j < 65536) := hL
  have HN : Hid (Nums w .u64 a1 n L) := hN
  clear hb hL hN
  go_enter Try.func59, Try.ntmps59
  go_wp2
  go_loopw [6] (fun ix wr => ∃ i m : Nat, i ≤ n + 66 ∧ ix = .int .i64 i ∧ Hid (wr = w.drewN m)) (fun ix _ => n + 66 - (intOf ix).toNat)
  case atStart => exact ⟨0, 0, Nat.zero_le _, rfl, rfl⟩
  case round =>
    obtain ⟨i, m, hi, rfl, HW⟩ := hrel
    by_cases hlt : i < n + 66
    · have hcell : wr.cell? ⟨g, i, none⟩ = some (.int .u16 (cat n L mark100 i : Int)) := by rw [HW.out]; exact HB.out.cell hlt
      have hil : (i : Int) < (n : Int) + 66 := by omega
      by_cases hin : i < n
      · obtain ⟨g1, o1, rfl, _, hc1⟩ := HN.out i hin
        have hc2 : wr.cell? ⟨g1, o1 + i, none⟩ = some (.int .u64 (L i : Int)) := by rw [HW.out]; exact hc1
        rw [cat_in hin] at hcell
        have hd : decide ((i : Int) < (n : Int)) = true := by simp; omega
        have hd2 : decide (n ≤ i) = false := by simp; omega
        have hd3 : decide ((n : Int) ≤ (i : Int)) = false := by simp; omega
        have hiI : (i : Int) < (n : Int) := by omega
        have hLi := HL.out i
        have hconv : IntKind.u16.wrap (L i : Int) = (L i : Int) := by rw [IntKind.wrap_u16]; omega
        clear hc1
        generalize L i = x at *
        go_wp2
        go_quiet (fail)
        go_wp2
        exact ⟨⟨i + 1, m + nq, by omega, by go_num, by show _ = _; rw [HW.out, World.drewN_drewN]⟩, by simp [intOf]; omega⟩
      · obtain ⟨d, rfl⟩ : ∃ d, i = n + d := ⟨i - n, by omega⟩
        rw [cat_at, mark100] at hcell
        have hd : decide ((n : Int) + (d : Int) < (n : Int)) = false := by simp; omega
        have hd2 : decide ((n : Int) ≤ (n : Int) + (d : Int)) = true := by simp; omega
        have hd66 : d < 66 := by omega
        have hconv : IntKind.u16.wrap (100 + (d : Int)) = 100 + (d : Int) := by rw [IntKind.wrap_u16]; omega
        go_wp2
        go_quiet (fail)
        go_wp2
        exact ⟨⟨n + d + 1, m + nq, by omega, by go_num, by show _ = _; rw [HW.out, World.drewN_drewN]⟩, by simp [intOf]; omega⟩
    · go_wp2
      go_ret
      exact ⟨rfl, m, HW.out⟩

end Go.Proofs.Ytijoamhfmophmaa
