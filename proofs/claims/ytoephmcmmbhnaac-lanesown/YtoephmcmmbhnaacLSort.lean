/-
  slices.Sort at uint64: what it leaves; up to 12 numbers; none.
-/
import Derived.Test.YtoephmcmmbhnaacLCompact
import Derived.Sort.AssemblyPlain
import Derived.Sort.LotA
namespace Go.Proofs.Ytoephmcmmbhnaac.Ln
open Go.RowKit Go.Sort

theorem swoN : SWO ltN := ⟨fun x => by simp [ltN], fun x y z => by simp [ltN]; omega, fun x y z => by simp [ltN]; omega⟩
/-- A sorted row of the same numbers. -/
structure SortOK (d d' : Array Nat) : Prop where
  size : d'.size = d.size
  mem : ∀ x, (∃ i, i < d'.size ∧ d'[i]! = x) ↔ ∃ i, i < d.size ∧ d[i]! = x
  rise : ∀ i j, i < j → j < d'.size → d'[i]! ≤ d'[j]!
theorem mem_get (d : Array Nat) (x : Nat) : (∃ i, i < d.size ∧ d[i]! = x) ↔ x ∈ d.toList := by
  rw [List.mem_iff_getElem]
  constructor
  · rintro ⟨i, h, e⟩
    exact ⟨i, by simpa using h, by rw [← e, getElem!_pos d i h]; simp⟩
  · rintro ⟨i, h, e⟩
    have h' : i < d.size := by simpa using h
    exact ⟨i, h', by rw [← e, getElem!_pos d i h']; simp⟩
theorem sortOK_of {d d' : Array Nat} (hp : PermIn 0 d.size d d') (hs : SortedIn ltN 0 d.size d') : SortOK d d' := by
  obtain ⟨h1, _, h3⟩ := hp
  refine ⟨h1, fun x => ?_, fun i j hij hj => ?_⟩
  · rw [mem_get, mem_get]
    have := h3.mem_iff (a := x)
    rw [show d'.extract 0 d.size = d' by rw [← h1]; simp, show d.extract 0 d.size = d by simp] at this
    exact this
  · have := hs i j (by omega) hij (by omega)
    simp [ltN] at this
    exact this

set_option maxHeartbeats 400000 in
theorem blen_any (x : Nat) (w : World) (hx : x < 18446744073709551616) :
    Calls Try.prog 71 #[.int .u64 (x : Int)] w fun e w' => e = .returned (.int .i64 (Lib.bitLen x : Int)) ∧ w' = w := by
  have HL : Hid (∀ W, Calls Try.prog 52 #[.int .u64 (x : Int)] W fun e w' => e = .returned (.int .i64 (Lib.bitLen x : Int)) ∧ w' = W) := fun W => by
    have := len64_any (x : Int) W (by omega) (by omega)
    simpa using this
  generalize Lib.bitLen x = l at *
  go_enter Try.func71, Try.ntmps71
  go_wp2_with (go_at_call 52; refine (HL.out _).mono ?_; rintro e wz ⟨rfl, hwz⟩; subst wz)
  go_ret
  exact ⟨rfl, rfl⟩

set_option maxHeartbeats 1000000 in
set_option maxRecDepth 20000 in
theorem pdq_small (g c a b : Nat) (limit : Int) (d : Array Nat) (w : World) (hd : RowD w g c d) (hab : a ≤ b) (hb : b ≤ d.size) (hs : d.size ≤ 140737488351232) (h12 : b - a ≤ 12) :
    Calls Try.prog 70 #[.slice (some ⟨g, 0, none⟩) d.size c, .int .i64 (a : Int), .int .i64 (b : Int), .int .i64 limit] w fun e w' => e = .returned (.tuple #[]) ∧ ∃ d', PermIn a b d d' ∧ SortedIn ltN a b d' ∧ RowD w' g c d' ∧ Turned g w w' := by
  have HI : Hid (Calls Try.prog 75 #[.slice (some ⟨g, 0, none⟩) d.size c, .int .i64 (a : Int), .int .i64 (b : Int)] w fun e w' => e = .returned (.tuple #[]) ∧ ∃ d', PermIn a b d d' ∧ SortedIn ltN a b d' ∧ RowD w' g c d' ∧ Turned g w w') := by
    refine (ins_any g c a b d w hd hab hb hs).mono ?_
    rintro e w' ⟨h1, h2, _, h4⟩
    obtain ⟨h5, h6⟩ := insertionSort_holds (lt := ltN) swoN d a b hab hb
    exact ⟨h1, _, h5, h6, h2, h4⟩
  have hle : decide ((b : Int) - (a : Int) ≤ 12) = true := by simp; omega
  have hba : IntKind.i64.wrap ((b : Int) - (a : Int)) = (b : Int) - (a : Int) := i64_left _ (by omega) (by omega)
  clear hd
  go_enter Try.func70, Try.ntmps70
  go_wp2
  go_loopw [1, 2] (fun ax bx wr => ax = .int .i64 (a : Int) ∧ bx = .int .i64 (b : Int) ∧ Hid (wr = w)) (fun _ _ _ => 0)
  case atStart => exact ⟨rfl, rfl, rfl⟩
  case round =>
    obtain ⟨rfl, rfl, HW⟩ := hrel
    obtain rfl := HW.out
    go_wp2_with (go_at_call 75; refine HI.out.mono ?_; rintro e w1 ⟨rfl, hr⟩)
    (try simp only [Exit.inBlock, Exit.then])
    refine bodyPost_ret (results_none rfl _ _ _) rfl ?_
    exact ⟨rfl, hr⟩

set_option maxHeartbeats 1000000 in
set_option maxRecDepth 20000 in
theorem sort_of (g c : Nat) (d : Array Nat) (w : World) (hs : d.size ≤ 140737488351232)
    (hp : ∀ l : Nat, l ≤ 64 → Calls Try.prog 70 #[.slice (some ⟨g, 0, none⟩) d.size c, .int .i64 0, .int .i64 (d.size : Int), .int .i64 (l : Int)] w fun e w' => e = .returned (.tuple #[]) ∧ ∃ d', PermIn 0 d.size d d' ∧ SortedIn ltN 0 d.size d' ∧ RowD w' g c d' ∧ Turned g w w') :
    Calls Try.prog 58 #[.slice (some ⟨g, 0, none⟩) d.size c] w fun e w' => e = .returned (.tuple #[]) ∧ ∃ d', SortOK d d' ∧ RowD w' g c d' ∧ Turned g w w' := by
  have HB : Hid (∀ W, Calls Try.prog 71 #[.int .u64 (d.size : Int)] W fun e w' => e = .returned (.int .i64 (Lib.bitLen d.size : Int)) ∧ w' = W) := fun W => blen_any d.size W (by omega)
  have HP : Hid (Calls Try.prog 70 #[.slice (some ⟨g, 0, none⟩) d.size c, .int .i64 0, .int .i64 (d.size : Int), .int .i64 (Lib.bitLen d.size : Int)] w fun e w' => e = .returned (.tuple #[]) ∧ ∃ d', SortOK d d' ∧ RowD w' g c d' ∧ Turned g w w') := by
    refine (hp (Lib.bitLen d.size) (bitLen_le64 (by omega))).mono ?_
    rintro e w' ⟨h1, d', h2, h3, h4, h5⟩
    exact ⟨h1, d', sortOK_of h2 h3, h4, h5⟩
  clear hp
  generalize Lib.bitLen d.size = l at *
  obtain ⟨n, hn⟩ : ∃ n, d.size = n := ⟨_, rfl⟩
  rw [hn] at hs HB HP ⊢
  clear hn
  have hcv : IntKind.u64.wrap (n : Int) = (n : Int) := u64_left _ (by omega) (by omega)
  go_enter Try.func58, Try.ntmps58
  go_wp2_with (first | (go_at_call 71; refine (HB.out _).mono ?_; rintro e wz ⟨rfl, hwz⟩; subst wz) | (go_at_call 70; refine HP.out.mono ?_; rintro e w1 ⟨rfl, hr⟩))
  go_end0
  exact ⟨rfl, hr⟩
theorem sort_small (g c : Nat) (d : Array Nat) (w : World) (hd : RowD w g c d) (h12 : d.size ≤ 12) :
    Calls Try.prog 58 #[.slice (some ⟨g, 0, none⟩) d.size c] w fun e w' => e = .returned (.tuple #[]) ∧ ∃ d', SortOK d d' ∧ RowD w' g c d' ∧ Turned g w w' :=
  sort_of g c d w (by omega) fun l _ => pdq_small g c 0 d.size (l : Int) d w hd (Nat.zero_le _) (Nat.le_refl _) (by omega) (by omega)

set_option maxHeartbeats 1000000 in
theorem ins_nil (w : World) : Calls Try.prog 75 #[.slice none 0 0, .int .i64 0, .int .i64 0] w fun e w' => e = .returned (.tuple #[]) ∧ w' = w := by
  go_enter Try.func75, Try.ntmps75
  go_wp2
  go_loopw [6] (fun ix wr => ix = .int .i64 1 ∧ Hid (wr = w)) (fun _ _ => 0)
  case atStart => exact ⟨rfl, rfl⟩
  case round =>
    obtain ⟨rfl, HW⟩ := hrel
    obtain rfl := HW.out
    go_wp2
    go_end0
    exact ⟨rfl, rfl⟩
set_option maxHeartbeats 1000000 in
theorem sort_nil (w : World) : Calls Try.prog 58 #[.slice none 0 0] w fun e w' => e = .returned (.tuple #[]) ∧ w' = w := by
  have HB : Hid (∀ W, Calls Try.prog 71 #[.int .u64 0] W fun e w' => e = .returned (.int .i64 0) ∧ w' = W) := fun W => blen_any 0 W (by omega)
  have HP : Hid (∀ W, Calls Try.prog 70 #[.slice none 0 0, .int .i64 0, .int .i64 0, .int .i64 0] W fun e w' => e = .returned (.tuple #[]) ∧ w' = W) := fun W => by
    go_enter Try.func70, Try.ntmps70
    go_wp2
    go_loopw [1, 2] (fun ax bx wr => ax = .int .i64 0 ∧ bx = .int .i64 0 ∧ Hid (wr = W)) (fun _ _ _ => 0)
    case atStart => exact ⟨rfl, rfl, rfl⟩
    case round =>
      obtain ⟨rfl, rfl, HW⟩ := hrel
      obtain rfl := HW.out
      go_wp2_with (go_at_call 75; refine (ins_nil _).mono ?_; rintro e wz ⟨rfl, hwz⟩; subst wz)
      (try simp only [Exit.inBlock, Exit.then])
      refine bodyPost_ret (results_none rfl _ _ _) rfl ?_
      exact ⟨rfl, rfl⟩
  go_enter Try.func58, Try.ntmps58
  go_wp2_with (first | (go_at_call 71; refine (HB.out _).mono ?_; rintro e wz ⟨rfl, hwz⟩; subst wz) | (go_at_call 70; refine (HP.out _).mono ?_; rintro e w1 ⟨rfl, hr⟩; subst w1))
  go_end0
  exact ⟨rfl, rfl⟩
set_option maxHeartbeats 1000000 in
theorem compact_nil (w : World) : Calls Try.prog 59 #[.slice none 0 0] w fun e w' => e = .returned (.slice none 0 0) ∧ w' = w := by
  go_enter Try.func59, Try.ntmps59
  go_wp2
  go_ret
  exact ⟨rfl, rfl⟩
end Go.Proofs.Ytoephmcmmbhnaac.Ln
