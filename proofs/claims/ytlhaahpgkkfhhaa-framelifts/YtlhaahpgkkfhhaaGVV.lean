/-
  math/big: addVV_g, subVV_g. (written by mkgvv.py)
-/
import Derived.Test.YtlhaahpgkkfhhaaGNat
namespace Go.Proofs.Ytlhaahpgkkfhhaa
open Go.RowKit

def sub64E : Array Value → Sem Value := ((Extern.MathBitsCarry.rows[1]?).map (·.2)).getD (fun _ => pure (.bool false))
theorem sub64_key (P : Program) (x y k : Nat) (hk : k ≤ 1) (w : World) : (sub64E #[.int .u64 (x : Int), .int .u64 (y : Int), .int .u64 (k : Int)]).run P w = .ok (Extern.MathBitsCarry.pair ((x + Extern.MathBitsCarry.m64 - y - k) % Extern.MathBitsCarry.m64) (if x < y + k then 1 else 0)) w := by
  have : k = 0 ∨ k = 1 := by omega
  rcases this with rfl | rfl <;> rfl
theorem sub64_run (x y c s cy : Nat) (_hx : x < 18446744073709551616) (_hy : y < 18446744073709551616) (hc1 : c ≤ 1) (hs : (x + 18446744073709551616 - y - c) % 18446744073709551616 = s) (hc : (if x < y + c then 1 else 0) = cy) (w : World) : (callFunc 44 #[.int .u64 (x : Int), .int .u64 (y : Int), .int .u64 (c : Int)]).run Try.prog w =
    .ok (.value (.tuple #[.int .u64 (s : Int), .int .u64 (cy : Int)])) w := by
  rw [run_callFunc_extern Try.func44 (by kernel_rfl) (by kernel_rfl) (by kernel_rfl) (e := sub64E) (by kernel_rfl)]
  rw [sub64_key _ x y c hc1 w]
  simp only [Extern.MathBitsCarry.m64, show (2 : Nat) ^ 64 = 18446744073709551616 by decide]
  rw [hs, hc]
  rfl
set_option maxRecDepth 8000 in
set_option maxHeartbeats 400000 in
theorem bitsSub (x y c s cy : Nat) (hx : x < 18446744073709551616) (hy : y < 18446744073709551616) (hc1 : c ≤ 1) (hs : (x + 18446744073709551616 - y - c) % 18446744073709551616 = s) (hc : (if x < y + c then 1 else 0) = cy) (w : World) :
    Calls Try.prog 36 #[.int .u64 (x : Int), .int .u64 (y : Int), .int .u64 (c : Int)] w fun e w' => e = .returned (.tuple #[.int .u64 (s : Int), .int .u64 (cy : Int)]) ∧ w' = w := by
  have hr := sub64_run x y c s cy hx hy hc1 hs hc w
  clear hs hc
  go_enter Try.func36, Try.ntmps36
  go_wp2_with fail
  go_ret2
  exact ⟨rfl, rfl⟩
/-- The carries and the words. -/
def cAdd (X Y : Nat → Nat) : Nat → Nat
  | 0 => 0
  | j + 1 => (X j + Y j + cAdd X Y j) / 18446744073709551616
def sAdd (X Y : Nat → Nat) (j : Nat) : Nat := (X j + Y j + cAdd X Y j) % 18446744073709551616
def cSub (X Y : Nat → Nat) : Nat → Nat
  | 0 => 0
  | j + 1 => if X j < Y j + cSub X Y j then 1 else 0
def sSub (X Y : Nat → Nat) (j : Nat) : Nat := (X j + 18446744073709551616 - Y j - cSub X Y j) % 18446744073709551616
theorem cAdd_le {X Y : Nat → Nat} (hX : ∀ j, X j < 18446744073709551616) (hY : ∀ j, Y j < 18446744073709551616) : ∀ j, cAdd X Y j ≤ 1
  | 0 => Nat.zero_le _
  | j + 1 => by have := cAdd_le hX hY j; have := hX j; have := hY j; unfold cAdd; omega
theorem cSub_le {X Y : Nat → Nat} (_hX : ∀ j, X j < 18446744073709551616) (_hY : ∀ j, Y j < 18446744073709551616) : ∀ j, cSub X Y j ≤ 1
  | 0 => Nat.zero_le _
  | j + 1 => by unfold cSub; split <;> omega
/-- The words so far. -/
def mixW (S L : Nat → Nat) (i : Nat) : Nat → Nat := fun j => if j < i then S j else L j
theorem mixW_upd (S L : Nat → Nat) (i : Nat) : upd (mixW S L i) i (S i) = mixW S L (i + 1) := by
  funext j
  unfold upd mixW
  by_cases h : j = i
  · subst h; rw [if_pos rfl, if_pos (by omega)]
  · rw [if_neg h]
    by_cases h2 : j < i
    · rw [if_pos h2, if_pos (by omega)]
    · rw [if_neg h2, if_neg (by omega)]
/-- Only block g is another one. -/
structure Only (g : Nat) (w w' : World) : Prop where
  os : w'.os = w.os
  tape : w'.tape = w.tape
  output : w'.output = w.output
  size : w'.heap.size = w.heap.size
  block : ∀ j, j ≠ g → w'.heap[j]? = w.heap[j]?
theorem Only.below {g : Nat} {w w' : World} (h : Only g w w') {B : Nat} (hB : B ≤ g) : Below B w w' := ⟨h.os, h.tape, h.output, by rw [h.size]; omega, fun j hj => h.block j (by omega)⟩
theorem Only.drew {g : Nat} {w w' : World} (h : Only g w w') (n : Nat) : Only g w (w'.drewN n) := ⟨h.os, h.tape, h.output, h.size, h.block⟩
theorem Only.set {g : Nat} {w w' : World} (h : Only g w w') (i : Nat) (u : Value) : Only g w (w'.setCell ⟨g, i, none⟩ u) := ⟨h.os, h.tape, h.output, by simp [World.setCell]; exact h.size, fun j hj => by rw [Below.heap_setCell _ _ _ _ hj]; exact h.block j hj⟩
set_option maxRecDepth 8000 in
set_option maxHeartbeats 2000000 in
theorem addVV_any (gz cz m n : Nat) (ax ay : Option Addr) (cx cy : Nat) (X Y L : Nat → Nat) (w : World) (hn : n ≤ m) (hm : m ≤ 8) (hz : Blk w gz 42 .u64 cz m L)
    (hX : ∀ j, X j < 18446744073709551616) (hY : ∀ j, Y j < 18446744073709551616)
    (HX : ∀ (wr : World) (i : Nat), i < n → Blk wr gz 42 .u64 cz m (mixW (sAdd X Y) L i) → Only gz w wr → ∃ g o, ax = some ⟨g, o, none⟩ ∧ wr.cell? ⟨g, o + i, none⟩ = some (.int .u64 (X i : Int)))
    (HY : ∀ (wr : World) (i : Nat), i < n → Blk wr gz 42 .u64 cz m (mixW (sAdd X Y) L i) → Only gz w wr → ∃ g o, ay = some ⟨g, o, none⟩ ∧ wr.cell? ⟨g, o + i, none⟩ = some (.int .u64 (Y i : Int))) :
    Calls Try.prog 14 #[.slice (some ⟨gz, 0, none⟩) n cz, .slice ax n cx, .slice ay n cy] w fun e w' => e = .returned (.int .u64 (cAdd X Y n : Int)) ∧ Blk w' gz 42 .u64 cz m (mixW (sAdd X Y) L n) ∧ Only gz w w' := by
  have H0 : Hid (Blk w gz 42 .u64 cz m (mixW (sAdd X Y) L 0) ∧ Only gz w w) := ⟨hz.ext (fun j _ => by simp [mixW]), ⟨rfl, rfl, rfl, rfl, fun _ _ => rfl⟩⟩
  have HXX := hid HX
  have HYY := hid HY
  have HC := hid (cAdd_le hX hY)
  have HBX := hid hX
  have HBY := hid hY
  clear HX HY hX hY hz
  go_enter Try.func14, Try.ntmps14
  go_wp2_with fail
  go_loopw [6, 25] (fun x y wr => ∃ i : Nat, i ≤ n ∧ x = .int .u64 (cAdd X Y i : Int) ∧ y = .int .i64 (i : Int) ∧ Hid (Blk wr gz 42 .u64 cz m (mixW (sAdd X Y) L i) ∧ Only gz w wr)) (fun _ y _ => n - (intOf y).toNat)
  case atStart => exact ⟨0, Nat.zero_le _, rfl, rfl, H0⟩
  case round =>
    clear H0
    obtain ⟨i, hi, rfl, rfl, HS⟩ := hrel
    by_cases hlt : i < n
    · have hii : (i : Int) < (n : Int) := by omega
      obtain ⟨gx, ox, rfl, kx⟩ := HXX.out wr i hlt HS.out.1 HS.out.2
      obtain ⟨gy, oy, rfl, ky⟩ := HYY.out wr i hlt HS.out.1 HS.out.2
      have hci := HC.out i
      have HBits := hid (fun wx => bitsAdd (X i) (Y i) (cAdd X Y i) (sAdd X Y i) (cAdd X Y (i + 1)) hci rfl rfl wx)
      have hcl := HS.out.1.cell (j := i) (by omega)
      have hfz := HS.out.1.frozen i
      have HS2 := hid (And.intro ((HS.out.1.store i (sAdd X Y i))) HS.out.2)
      rw [mixW_upd] at HS2
      generalize mixW (sAdd X Y) L i i = old at hcl
      generalize cAdd X Y i = ci at *
      generalize hcj : cAdd X Y (i + 1) = cj at *
      have HCJ := hid hcj
      clear hcj
      generalize sAdd X Y i = si at *
      generalize X i = xi at *
      generalize Y i = yi at *
      clear HS
      go_wp2_with fail
      go_quiet ((go_at_call 33; exact Calls.quiet_of_same (HBits.out _)))
      go_wp2_with fail
      exact ⟨⟨i + 1, by omega, by rw [HCJ.out], by go_num, HS2.out.1.kept rfl, (HS2.out.2.drew _).set i _⟩, by simp [intOf]; omega⟩
    · obtain rfl : i = n := by omega
      go_wp2_with fail
      go_ret
      exact ⟨rfl, HS.out.1, HS.out.2⟩
set_option maxRecDepth 8000 in
set_option maxHeartbeats 2000000 in
theorem subVV_any (gz cz m n : Nat) (ax ay : Option Addr) (cx cy : Nat) (X Y L : Nat → Nat) (w : World) (hn : n ≤ m) (hm : m ≤ 8) (hz : Blk w gz 42 .u64 cz m L)
    (hX : ∀ j, X j < 18446744073709551616) (hY : ∀ j, Y j < 18446744073709551616)
    (HX : ∀ (wr : World) (i : Nat), i < n → Blk wr gz 42 .u64 cz m (mixW (sSub X Y) L i) → Only gz w wr → ∃ g o, ax = some ⟨g, o, none⟩ ∧ wr.cell? ⟨g, o + i, none⟩ = some (.int .u64 (X i : Int)))
    (HY : ∀ (wr : World) (i : Nat), i < n → Blk wr gz 42 .u64 cz m (mixW (sSub X Y) L i) → Only gz w wr → ∃ g o, ay = some ⟨g, o, none⟩ ∧ wr.cell? ⟨g, o + i, none⟩ = some (.int .u64 (Y i : Int))) :
    Calls Try.prog 15 #[.slice (some ⟨gz, 0, none⟩) n cz, .slice ax n cx, .slice ay n cy] w fun e w' => e = .returned (.int .u64 (cSub X Y n : Int)) ∧ Blk w' gz 42 .u64 cz m (mixW (sSub X Y) L n) ∧ Only gz w w' := by
  have H0 : Hid (Blk w gz 42 .u64 cz m (mixW (sSub X Y) L 0) ∧ Only gz w w) := ⟨hz.ext (fun j _ => by simp [mixW]), ⟨rfl, rfl, rfl, rfl, fun _ _ => rfl⟩⟩
  have HXX := hid HX
  have HYY := hid HY
  have HC := hid (cSub_le hX hY)
  have HBX := hid hX
  have HBY := hid hY
  clear HX HY hX hY hz
  go_enter Try.func15, Try.ntmps15
  go_wp2_with fail
  go_loopw [6, 25] (fun x y wr => ∃ i : Nat, i ≤ n ∧ x = .int .u64 (cSub X Y i : Int) ∧ y = .int .i64 (i : Int) ∧ Hid (Blk wr gz 42 .u64 cz m (mixW (sSub X Y) L i) ∧ Only gz w wr)) (fun _ y _ => n - (intOf y).toNat)
  case atStart => exact ⟨0, Nat.zero_le _, rfl, rfl, H0⟩
  case round =>
    clear H0
    obtain ⟨i, hi, rfl, rfl, HS⟩ := hrel
    by_cases hlt : i < n
    · have hii : (i : Int) < (n : Int) := by omega
      obtain ⟨gx, ox, rfl, kx⟩ := HXX.out wr i hlt HS.out.1 HS.out.2
      obtain ⟨gy, oy, rfl, ky⟩ := HYY.out wr i hlt HS.out.1 HS.out.2
      have hci := HC.out i
      have HBits := hid (fun wx => bitsSub (X i) (Y i) (cSub X Y i) (sSub X Y i) (cSub X Y (i + 1)) (HBX.out i) (HBY.out i) hci rfl rfl wx)
      have hcl := HS.out.1.cell (j := i) (by omega)
      have hfz := HS.out.1.frozen i
      have HS2 := hid (And.intro ((HS.out.1.store i (sSub X Y i))) HS.out.2)
      rw [mixW_upd] at HS2
      generalize mixW (sSub X Y) L i i = old at hcl
      generalize cSub X Y i = ci at *
      generalize hcj : cSub X Y (i + 1) = cj at *
      have HCJ := hid hcj
      clear hcj
      generalize sSub X Y i = si at *
      generalize X i = xi at *
      generalize Y i = yi at *
      clear HS
      go_wp2_with fail
      go_quiet ((go_at_call 36; exact Calls.quiet_of_same (HBits.out _)))
      go_wp2_with fail
      exact ⟨⟨i + 1, by omega, by rw [HCJ.out], by go_num, HS2.out.1.kept rfl, (HS2.out.2.drew _).set i _⟩, by simp [intOf]; omega⟩
    · obtain rfl : i = n := by omega
      go_wp2_with fail
      go_ret
      exact ⟨rfl, HS.out.1, HS.out.2⟩
end Go.Proofs.Ytlhaahpgkkfhhaa
