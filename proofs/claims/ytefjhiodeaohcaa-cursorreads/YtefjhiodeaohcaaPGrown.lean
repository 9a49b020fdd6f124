/-
  The law's own: grown, equal, none.
-/
import Derived.Test.YtefjhiodeaohcaaPAsk
import Derived.Test.YtefjhiodeaohcaaULent
namespace Go.Proofs.Ytefjhiodeaohcaa
open Go.RowKit Cu

/-- Bytes and texts lie in unlike blocks. -/
theorem own_off {w : World} {B C : Nat} {v u : Value} {n : Nat} {L : Nat → Nat} {T : List ByteArray} (h : Own w B 5 .u8 v n L) (k : OwnS w C u T) {g : Nat} (hv : v.ownBlock = some g) : u.ownBlock ≠ some g := by
  intro hu
  rcases h.2 with ⟨rfl, _⟩ | ⟨g1, _, _, rfl, _, h1, _⟩
  · cases hv
  · rcases k.2 with ⟨rfl, _⟩ | ⟨g2, _, _, rfl, _, h2, _⟩
    · cases hu
    · have e1 : g1 = g := by injection hv
      have e2 : g2 = g := by injection hu
      subst e1 e2
      rw [h1] at h2
      injection h2 with h2
      injection h2 with _ h3 _
      exact absurd h3 (by decide)
theorem ownS_grown {w w' : World} {B : Nat} {u : Value} {T : List ByteArray} {row : Option Nat} (k : OwnS w B u T) (hg : w.grownBy w' row) (hn : ∀ g, u.ownBlock = some g → row ≠ some g) : OwnS w' B u T :=
  k.kept fun g hu => hg.block g (k.lt g hu).2 (fun e => hn g hu e.symm)
theorem own_grown {w w' : World} {B : Nat} {v : Value} {n : Nat} {L : Nat → Nat} {row : Option Nat} (k : Own w B 5 .u8 v n L) (hg : w.grownBy w' row) (hn : ∀ g, v.ownBlock = some g → row ≠ some g) : Own w' B 5 .u8 v n L :=
  k.kept fun g hu => hg.block g (k.lt g hu).2 (fun e => hn g hu e.symm)
/-- append of a byte; texts stay. -/
theorem run_oneG {w : World} {B : Nat} {v u : Value} {l : List Nat} {T : List ByteArray} (ho : Own w B 5 .u8 v l.length (ofL l)) (hT : OwnS w B u T) (hb : l.length + 1 ≤ 140737488355328) (hB : B ≤ w.heap.size) (x : Nat) (y : Int) (hy : y = (x : Int)) :
    ∃ v' w', (Builtin.append_ #[22, 22] 22 #[v, .slice (some ⟨w.heap.size, 0, none⟩) 1 1]).run Try.prog (w.alloc (.cells #[.int .u8 y] 5)) = .ok v' w' ∧ Own w' B 5 .u8 v' (l ++ [x]).length (ofL (l ++ [x])) ∧ OwnS w' B u T ∧ Below B w w' := by
  have e : ofL (l ++ [x]) l.length = x := by rw [ofL_append]; unfold cat; simp [ofL]
  obtain ⟨g, c, w', hr, h1, h2, h3, h4⟩ := run_one (t := 22) (ty := 22) (L := ofL (l ++ [x])) Try.underlying22 infoU8 (ho.ext fun j hj => by rw [ofL_append]; unfold cat; rw [if_pos hj]) (by omega) (by omega) hB y (by rw [e]; exact hy)
  refine ⟨_, w', hr, ?_, ?_, h2⟩
  · rw [List.length_append]; exact h1
  · refine ownS_grown (hT.later (below_new w _)) h3 (fun g hu hv => ?_)
    exact own_off ho hT hv hu
/-- append of a text; bytes stay. -/
theorem run_oneT {w : World} {B : Nat} {v u : Value} {l : List Nat} {T : List ByteArray} (ho : Own w B 5 .u8 v l.length (ofL l)) (hT : OwnS w B u T) (hb : (T.length + 1) * 16 ≤ 140737488355328) (hB : B ≤ w.heap.size) (s : ByteArray) :
    ∃ v' w', (Builtin.append_ #[37, 37] 37 #[u, .slice (some ⟨w.heap.size, 0, none⟩) 1 1]).run Try.prog (w.alloc (.cells #[.string s] 9)) = .ok v' w' ∧ OwnS w' B v' (T ++ [s]) ∧ Own w' B 5 .u8 v l.length (ofL l) ∧ Below B w w' := by
  obtain ⟨i0, hi0, hz0, hz1, hz2⟩ := info_parts infoStr
  have ho2 : (w.alloc (.cells #[.string s] 9)).ownsRow B 9 1 u T.length (svals T) := World.ownsRow.alloc hT _
  obtain ⟨g, c, w', hr, h1, h2, h3, h4⟩ := run_append_lies (P := Try.prog) (w.alloc (.cells #[.string s] 9)) 37 37 B 9 i0 (.string ByteArray.empty) 1 16 Try.underlying37 hi0 hz0 hz1 hz2 rfl (by decide) u T.length _ ho2 ⟨w.heap.size, 0, none⟩ 1 1 [.string s] rfl (cell_one_new _ _ _) (by simp [Value.oneCell']) (by omega) (by simp [maxLen]; omega) hb (by simp; omega) _ rfl
  refine ⟨_, w', hr, ?_, ?_, ((Below.refl B w).alloc hB _).grown h2 (by simp; omega) (fun j hj => (OwnS.lt hT j hj).1)⟩
  · unfold OwnS
    rw [List.length_append, show svals (T ++ [s]) = svals T ++ [.string s] by simp [svals]]
    exact h1
  · refine own_grown (ho.later (below_new w _)) h2 (fun g hv hu => ?_)
    exact own_off ho hT hv hu
abbrev sGrown : ByteArray := ⟨#[103, 114, 111, 119, 110]⟩
set_option maxRecDepth 4000 in
set_option maxHeartbeats 4000000 in
theorem grown_any (B : Nat) (u m : Nat) (a : Option Addr) (n c : Nat) (at3 : Option Addr) (ct : Nat) (l : List Nat) (T : List ByteArray) (w : World) (_hln : l.length = n) (ho : Own w B 5 .u8 (.slice a n c) l.length (ofL l)) (hT : OwnS w B (.slice at3 T.length ct) T) (hB : B ≤ w.heap.size) (hn : l.length ≤ 4294967296) (hnT : T.length ≤ 4294967296) :
    Calls Try.prog 17 #[.agg #[.int .u64 (u : Int), .slice a n c, .slice at3 T.length ct], .int .u8 (m : Int)] w fun e w' => (∃ v, e = .returned v) ∧ Below B w w' := by
  have hb1 : Below B w (w.alloc (.cells #[.int .u64 (u : Int), .slice a n c, .slice at3 T.length ct] tTold)) := (Below.refl _ w).alloc hB _
  have HO := hid (ho.later (below_new w (.cells #[.int .u64 (u : Int), .slice a n c, .slice at3 T.length ct] tTold)))
  have HT := hid (hT.later (below_new w (.cells #[.int .u64 (u : Int), .slice a n c, .slice at3 T.length ct] tTold)))
  have HB := hid hb1
  clear ho hT hb1
  go_enter Try.func17, Try.ntmps17
  go_wp2_with fail
  go_loopw [6, 7, 8] (fun x y z wr => ∃ (i : Nat) (p : List Nat) (q : List ByteArray), i ≤ 64 ∧ z = .int .i64 (i : Int) ∧ p.length ≤ 4294967296 + i ∧ q.length ≤ 4294967296 + i ∧ Hid (Own wr B 5 .u8 x p.length (ofL p)) ∧ Hid (OwnS wr B y q) ∧ Hid (Below B w wr)) (fun _ _ z _ => 64 - (intOf z).toNat)
  case atStart => exact ⟨0, l, T, by omega, rfl, by omega, by omega, HO, HT, HB⟩
  case round =>
    clear HO HT HB
    obtain ⟨i, p, q, hi, rfl, hp, hq, HO, HT, HB⟩ := hrel
    by_cases hlt : i < 64
    · have hii : (i : Int) < 64 := by omega
      have hsz := Nat.le_trans hB HB.out.size
      obtain ⟨v2, w2, hr2, o2, t2, b2⟩ := run_oneG HO.out HT.out (by omega) hsz m (m : Int) rfl
      obtain ⟨v3, w3, hr3, t3, o3, b3⟩ := run_oneT o2 t2 (by omega) (Nat.le_trans hsz b2.size) sGrown
      have R2 := hid hr2
      have R3 := hid hr3
      have O3 := hid o3
      have T3 := hid t3
      have B3 := hid ((HB.out.trans b2).trans b3)
      clear hr2 hr3 o2 o3 t2 t3 b2 b3 HO HT HB
      go_wp2_with (at_builtin; first | (refine wpList_app (by rfl) (by rfl) R2.out ?_; clear R2) | (refine wpList_app (by rfl) (by rfl) R3.out ?_; clear R3))
      exact ⟨⟨i + 1, _, _, by omega, by go_num, by rw [List.length_append]; simp; omega, by rw [List.length_append]; simp; omega, O3, T3, B3⟩, by simp [intOf]; omega⟩
    · obtain rfl : i = 64 := by omega
      go_wp2_with fail
      go_ret2
      exact ⟨⟨_, rfl⟩, HB.out⟩
theorem str_eq (s : ByteArray) : (s.toList == s.toList) = true := by simp
set_option maxRecDepth 4000 in
set_option maxHeartbeats 4000000 in
theorem equal_any (u : Nat) (a b at1 bt : Option Addr) (c d ct dt : Nat) (l : List Nat) (T : List ByteArray) (w : World) (hA : Bytes w a l) (hB : Bytes w b l) (hS : Strs w at1 T) (hU : Strs w bt T) (hT : T.length ≤ 4294967296) :
    Calls Try.prog 16 #[.agg #[.int .u64 (u : Int), .slice a l.length c, .slice at1 T.length ct], .agg #[.int .u64 (u : Int), .slice b l.length d, .slice bt T.length dt]] w fun e w' => e = .returned (.bool true) ∧ Below w.heap.size w w' := by
  have hb1 := below_new w (.cells #[.int .u64 (u : Int), .slice a l.length c, .slice at1 T.length ct] tTold)
  have hb2 : Below w.heap.size w ((w.alloc (.cells #[.int .u64 (u : Int), .slice a l.length c, .slice at1 T.length ct] tTold)).alloc (.cells #[.int .u64 (u : Int), .slice b l.length d, .slice bt T.length dt] tTold)) := hb1.alloc hb1.size _
  have r1 := run_strB c (hA.later hb2)
  have r2 := run_strB d (hB.later hb2)
  have HC := hid (sameTexts_any at1 bt T T ct dt _ (hS.later hb2) (hU.later hb2) (by omega) (by omega))
  have HB2 := hid hb2
  have c1 : ((w.alloc (.cells #[.int .u64 (u : Int), .slice a l.length c, .slice at1 T.length ct] tTold)).alloc (.cells #[.int .u64 (u : Int), .slice b l.length d, .slice bt T.length dt] tTold)).heap[w.heap.size]? = some (.cells #[.int .u64 (u : Int), .slice a l.length c, .slice at1 T.length ct] tTold (0, 0)) := by
    rw [Below.heap_alloc _ _ _ (by simp)]; exact heap_alloc_new w _
  obtain ⟨k0, k1, k2, _⟩ := told_cells c1
  generalize strL l = s at *
  rw [show decide (T = T) = true from decide_eq_true rfl] at HC
  clear hb1 hb2 hA hB hS hU c1
  go_enter Try.func16, Try.ntmps16
  go_wp2_with fail
  refine HC.out.mono ?_
  rintro e w2 ⟨rfl, j, rfl⟩
  go_wp2_with fail
  go_ret
  exact ⟨rfl, below_drewN HB2.out j⟩
end Go.Proofs.Ytefjhiodeaohcaa
