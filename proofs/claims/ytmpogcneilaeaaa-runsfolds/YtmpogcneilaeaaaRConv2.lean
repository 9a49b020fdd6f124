/-
  The law's textRuns, modelTexts, modelNumbers.
-/
import Derived.Test.YtmpogcneilaeaaaRConv
import Derived.Deep.DeepAppendWide
namespace Go.Proofs.Ytmpogcneilaeaaa
open Go.ChangeShapes Go.WideShapes Go.ChangeAt Go.RowKit Rn Cu

set_option maxRecDepth 4000 in
set_option maxHeartbeats 2000000 in
theorem textRuns_any (a : Option Addr) (r : List (ByteArray × Int)) (c : Nat) (w : World) (hA : Lst (two Value.string) 2 w a r) (hn : r.length * 24 ≤ 140737488355328) :
    Calls Try.prog 11 #[.slice a r.length c] w fun e w' => ∃ v, e = .returned v ∧ OwnRStr w' w.heap.size v r ∧ Below w.heap.size w w' := by
  have HA := hid hA
  have HBB : Hid (∀ i, i < r.length → (i + 1) * 24 ≤ 140737488355328) := fun i hi => by omega
  clear hA
  go_enter Try.func11, Try.ntmps11
  go_wp2_with fail
  go_loopw [3, 4] (fun x y wr => ∃ i : Nat, i ≤ r.length ∧ y = .int .i64 (i : Int) ∧ Hid (OwnRStr wr w.heap.size x (r.take i)) ∧ Hid (Below w.heap.size w wr)) (fun _ y _ => r.length - (intOf y).toNat)
  case atStart => exact ⟨0, Nat.zero_le _, rfl, OwnL.nil _ _ _ _ _, Below.refl _ _⟩
  case round =>
    obtain ⟨i, hi, rfl, HO, HBl⟩ := hrel
    rename World => wr
    by_cases hlt : i < r.length
    · have hii : (i : Int) < (r.length : Int) := by omega
      obtain ⟨g, o, rfl, hgw, k1, k2⟩ := HA.out.cell2 hlt
      have hlen : (r.take i).length = i := by rw [List.length_take]; omega
      obtain ⟨g3, c3, w3, R3, H3, B3⟩ := run_oneRStr (w := wr.drew) (OwnL.later HO.out (below_drew (Below.refl _ wr))) (by rw [hlen]; exact HBB.out i hlt) HBl.out.size r[i].1 r[i].2
      rw [hlen] at R3 H3
      rw [show r.take i ++ [(r[i].1, r[i].2)] = r.take (i + 1) by rw [List.take_add_one, List.getElem?_eq_getElem hlt]; rfl] at H3
      have H3' := hid H3
      have B3' : Hid (Below w.heap.size w w3) := (below_drew HBl.out).trans B3
      generalize r[i].1 = x at *
      generalize r[i].2 = n at *
      rw [show wr.drew.heap.size = wr.heap.size from rfl] at R3
      have R3' := hid R3
      have hk : ∀ W, Below w.heap.size w W → W.cell? ⟨g, o + i * 2, none⟩ = some (.string x) ∧ W.cell? ⟨g, o + i * 2 + 1, none⟩ = some (.int .i64 n) := fun W hW => ⟨(hW.cell (p := ⟨g, o + i * 2, none⟩) hgw).trans k1, (hW.cell (p := ⟨g, o + i * 2 + 1, none⟩) hgw).trans k2⟩
      have hk0 := hk wr.drew (below_drew HBl.out)
      have hka := hk (wr.alloc (.cells #[.string x, .int .i64 n] 41)).drew (below_drew (HBl.out.alloc HBl.out.size _))
      have hkb := hk w3 B3'.out
      clear hk k1 k2
      have HK0 := hid hk0
      have HKa := hid hka
      have HKb := hid hkb
      clear hk0 hka hkb
      clear R3 H3 B3
      go_wp2_with fail
      go_region_held3 (fun W => W.cell? ⟨g, o + i * 2, none⟩ = some (.string x) ∧ W.cell? ⟨g, o + i * 2 + 1, none⟩ = some (.int .i64 n)) (first | exact HK0 | exact HKa | exact HKb) ((rw [if_pos (by rfl)]; refine oper_appR (by rfl) (by rfl) R3'.out ?_))
      go_wp2_with fail
      exact ⟨⟨i + 1, by omega, by go_num, H3', B3'⟩, by simp [intOf]; omega⟩
    · obtain rfl : i = r.length := by omega
      rw [List.take_length] at HO
      go_wp2_with fail
      go_ret
      exact ⟨_, rfl, HO.out, HBl.out⟩
set_option maxRecDepth 4000 in
set_option maxHeartbeats 2000000 in
theorem modelTexts_any (a : Option Addr) (r : List (ByteArray × Int)) (c : Nat) (w : World) (hA : Lst (two Value.string) 2 w a r) (hn : r.length * 24 ≤ 140737488355328) :
    Calls Try.prog 25 #[.slice a r.length c] w fun e w' => ∃ v, e = .returned v ∧ OwnD w' w.heap.size v r ∧ Below w.heap.size w w' := by
  have HA := hid hA
  have HBB : Hid (∀ i, i < r.length → (i + 1) * 24 ≤ 140737488355328) := fun i hi => by omega
  clear hA
  go_enter Try.func25, Try.ntmps25
  go_wp2_with fail
  go_loopw [3, 4] (fun x y wr => ∃ i : Nat, i ≤ r.length ∧ y = .int .i64 (i : Int) ∧ Hid (OwnD wr w.heap.size x (r.take i)) ∧ Hid (Below w.heap.size w wr)) (fun _ y _ => r.length - (intOf y).toNat)
  case atStart => exact ⟨0, Nat.zero_le _, rfl, OwnL.nil _ _ _ _ _, Below.refl _ _⟩
  case round =>
    obtain ⟨i, hi, rfl, HO, HBl⟩ := hrel
    rename World => wr
    by_cases hlt : i < r.length
    · have hii : (i : Int) < (r.length : Int) := by omega
      obtain ⟨g, o, rfl, hgw, k1, k2⟩ := HA.out.cell2 hlt
      have hlen : (r.take i).length = i := by rw [List.length_take]; omega
      obtain ⟨g3, c3, w3, R3, H3, B3⟩ := run_oneD (w := wr.drew) (OwnL.later HO.out (below_drew (Below.refl _ wr))) (by rw [hlen]; exact HBB.out i hlt) HBl.out.size r[i].1 r[i].2
      rw [hlen] at R3 H3
      rw [show r.take i ++ [(r[i].1, r[i].2)] = r.take (i + 1) by rw [List.take_add_one, List.getElem?_eq_getElem hlt]; rfl] at H3
      have H3' := hid H3
      have B3' : Hid (Below w.heap.size w w3) := (below_drew HBl.out).trans B3
      generalize r[i].1 = x at *
      generalize r[i].2 = n at *
      rw [show wr.drew.heap.size = wr.heap.size from rfl] at R3
      have R3' := hid R3
      have hk : ∀ W, Below w.heap.size w W → W.cell? ⟨g, o + i * 2, none⟩ = some (.string x) ∧ W.cell? ⟨g, o + i * 2 + 1, none⟩ = some (.int .i64 n) := fun W hW => ⟨(hW.cell (p := ⟨g, o + i * 2, none⟩) hgw).trans k1, (hW.cell (p := ⟨g, o + i * 2 + 1, none⟩) hgw).trans k2⟩
      have hk0 := hk wr.drew (below_drew HBl.out)
      have hka := hk (wr.alloc (.cells #[.string x, .int .i64 n] tRun)).drew (below_drew (HBl.out.alloc HBl.out.size _))
      have hkb := hk w3 B3'.out
      clear hk k1 k2
      have HK0 := hid hk0
      have HKa := hid hka
      have HKb := hid hkb
      clear hk0 hka hkb
      clear R3 H3 B3
      go_wp2_with fail
      go_region_held3 (fun W => W.cell? ⟨g, o + i * 2, none⟩ = some (.string x) ∧ W.cell? ⟨g, o + i * 2 + 1, none⟩ = some (.int .i64 n)) (first | exact HK0 | exact HKa | exact HKb) ((rw [if_pos (by rfl)]; refine oper_appR (by rfl) (by rfl) R3'.out ?_))
      go_wp2_with fail
      exact ⟨⟨i + 1, by omega, by go_num, H3', B3'⟩, by simp [intOf]; omega⟩
    · obtain rfl : i = r.length := by omega
      rw [List.take_length] at HO
      go_wp2_with fail
      go_ret
      exact ⟨_, rfl, HO.out, HBl.out⟩
/-- append of one of the document's runs, where they are many. -/
theorem run_oneDW {w : World} {B : Nat} {v : Value} {r : List (ByteArray × Int)} (ho : OwnD w B v r) (hb : r.length + 1 ≤ 8796093022208) (hB : B ≤ w.heap.size) (x : ByteArray) (n : Int) :
    ∃ g c w', (Builtin.append_ #[28, 28] 28 #[v, .slice (some ⟨w.heap.size, 0, none⟩) 1 1]).run Try.prog (w.alloc (.cells #[.string x, .int .i64 n] tRun)) = .ok (.slice (some ⟨g, 0, none⟩) (r.length + 1) c) w' ∧ OwnD w' B (.slice (some ⟨g, 0, none⟩) (r.length + 1) c) (r ++ [(x, n)]) ∧ Below B w w' := by
  obtain ⟨i0, hi0, hz0, hz1, hz2⟩ := info_parts infoD
  have ho2 : (w.alloc (.cells #[.string x, .int .i64 n] tRun)).ownsRow B tRun 2 v r.length (r.flatMap (two Value.string)) := World.ownsRow.alloc ho _
  have hby : ((r.length + 1) + (r.length + 1) / 4 + 192) * 24 ≤ 281474976710656 := by
    have h1 : (r.length + 1) + (r.length + 1) / 4 + 192 ≤ 10995116277952 := by omega
    exact Nat.le_trans (Nat.mul_le_mul_right 24 h1) (by decide)
  obtain ⟨v', w', hr, h1, h2, _⟩ := run_append_own_wide (P := Try.prog) (w.alloc (.cells #[.string x, .int .i64 n] tRun)) B 28 28 tRun i0 (.agg #[.string ByteArray.empty, .int .i64 0]) 2 24 Try.underlying28 hi0 hz0 hz1 hz2 rfl (by decide) v r.length _ ho2 ⟨w.heap.size, 0, none⟩ 1 1 (two Value.string (x, n)) rfl (news_of (f := two Value.string) (x := (x, n)) rfl) (two_cell (fun _ => rfl) (x, n)) (by simp [maxLen]; omega) hby (by simp; omega)
  obtain ⟨g, c, rfl, _, _⟩ := World.ownsRow.form h1 (by omega)
  refine ⟨g, c, w', hr, ?_, ((Below.refl B w).alloc hB _).grown h2 (by simp; omega) (fun j hj => (OwnL.lt ho j hj).1)⟩
  show World.ownsRow _ _ _ _ _ _ _
  rw [List.length_append, List.length_singleton, List.flatMap_append, show List.flatMap (two Value.string) [(x, n)] = two Value.string (x, n) by simp]
  exact h1
set_option maxRecDepth 4000 in
set_option maxHeartbeats 2000000 in
theorem modelNumbers_any (a : Option Addr) (r : List (Int × Int)) (c : Nat) (w : World) (hA : RnsInt w a r) (hn : r.length ≤ 8796093022208) :
    Calls Try.prog 24 #[.slice a r.length c] w fun e w' => ∃ v, e = .returned v ∧ OwnD w' w.heap.size v (mapR wrd r) ∧ Below w.heap.size w w' := by
  have HA := hid hA
  have HBB : Hid (∀ i, i < r.length → i + 1 ≤ 8796093022208) := fun i hi => by omega
  clear hA
  go_enter Try.func24, Try.ntmps24
  go_wp2_with fail
  go_loopw [3, 4] (fun x y wr => ∃ i : Nat, i ≤ r.length ∧ y = .int .i64 (i : Int) ∧ Hid (OwnD wr w.heap.size x (mapR wrd (r.take i))) ∧ Hid (Below w.heap.size w wr)) (fun _ y _ => r.length - (intOf y).toNat)
  case atStart => exact ⟨0, Nat.zero_le _, rfl, OwnL.nil _ _ _ _ _, Below.refl _ _⟩
  case round =>
    obtain ⟨i, hi, rfl, HO, HBl⟩ := hrel
    rename World => wr
    by_cases hlt : i < r.length
    · have hii : (i : Int) < (r.length : Int) := by omega
      obtain ⟨g, o, rfl, hgw, k1, k2⟩ := HA.out.cell2 hlt
      have hlen : (mapR wrd (r.take i)).length = i := by rw [mapR_len, List.length_take]; omega
      have HLn := hid hlen
      clear hlen
      have HW := hid (rWord r[i].1 wr.drew)
      have HE := hid (mapR_take_snoc (f := wrd) hlt)
      have hbb := HBB.out i hlt
      generalize r[i].1 = x at *
      generalize r[i].2 = n at *
      have hk : Hid (∀ W, Below w.heap.size w W → W.cell? ⟨g, o + i * 2, none⟩ = some (.int .i64 x) ∧ W.cell? ⟨g, o + i * 2 + 1, none⟩ = some (.int .i64 n)) := fun W hW => ⟨(hW.cell (p := ⟨g, o + i * 2, none⟩) hgw).trans k1, (hW.cell (p := ⟨g, o + i * 2 + 1, none⟩) hgw).trans k2⟩
      have HK0 := hid (hk.out wr.drew (below_drew HBl.out))
      clear k1 k2
      go_wp2_with fail
      go_region_held3 (fun W => W.cell? ⟨g, o + i * 2, none⟩ = some (.int .i64 x) ∧ W.cell? ⟨g, o + i * 2 + 1, none⟩ = some (.int .i64 n)) (first | exact HK0 | exact HK2 | exact HKa | exact HKb) (first
        | (go_at_call 32
           refine HW.out.mono ?_
           rintro e w2 ⟨rfl, hb2⟩
           obtain ⟨g3, c3, w3, R3, H3, B3⟩ := run_oneDW (w := w2) (OwnL.later HO.out (below_up (below_drew (Below.refl _ wr)) hb2)) (by rw [HLn.out]; exact hbb) (Nat.le_trans HBl.out.size hb2.size) (wrd x) n
           rw [HLn.out] at R3 H3
           rw [HE.out] at H3
           have R3' := hid R3
           have H3' := hid H3
           have HB2 : Hid (Below w.heap.size w w2) := below_up (below_drew HBl.out) hb2
           have B3' : Hid (Below w.heap.size w w3) := HB2.out.trans B3
           have HK2 := hid (hk.out w2 HB2.out)
           have HKa := hid (hk.out (w2.alloc (.cells #[.string (wrd x), .int .i64 n] tRun)) (HB2.out.alloc HB2.out.size _))
           have HKb := hid (hk.out w3 B3'.out)
           clear R3 H3 B3 hb2 HW HO)
        | (rw [if_pos (by rfl)]; refine oper_appR (by rfl) (by rfl) R3'.out ?_))
      all_goals go_wp2_with fail
      all_goals exact ⟨⟨i + 1, by omega, by go_num, H3', B3'⟩, by simp [intOf]; omega⟩
    · obtain rfl : i = r.length := by omega
      rw [List.take_length] at HO
      go_wp2_with fail
      go_ret
      exact ⟨_, rfl, HO.out, HBl.out⟩
end Go.Proofs.Ytmpogcneilaeaaa
