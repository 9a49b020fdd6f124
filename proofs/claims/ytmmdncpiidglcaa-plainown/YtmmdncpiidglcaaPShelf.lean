/-
  The program's own: shelves.
-/
import Derived.Test.YtmmdncpiidglcaaPNum
import Derived.Laws.ResultCell
namespace Go.Proofs.Ytmmdncpiidglcaa
open Go.ChangeShapes Go.WideShapes Go.ChangeAt Go.RowKit Cu

set_option maxRecDepth 4000 in
set_option maxHeartbeats 2000000 in
theorem openShelf_no (a : Option Addr) (l c n : Nat) (w : World) (hn : n ≤ 16777216) (h : l < 4 * (n + 1)) :
    Calls Try.prog 23 #[.slice a l c, .int .i64 (n : Int)] w fun e w' => e = .returned (.tuple #[.agg #[.slice none 0 0, .slice none 0 0], .bool false]) ∧ Below w.heap.size w w' := by
  have HE := hid (fun W => endsSize_any n W hn)
  obtain ⟨k, hk⟩ : ∃ k, 4 * (n + 1) = k := ⟨_, rfl⟩
  rw [hk] at HE h
  have h' : (l : Int) < (k : Int) := by omega
  clear hk
  go_enter Try.func23, Try.ntmps23
  go_wp2_with (go_at_call 28; refine (HE.out _).mono ?_; rintro e w2 ⟨rfl, hw2⟩; subst w2)
  refine bodyPost_ret (by rw [results_cell_tmp rfl]; go_simp; rfl) rfl ?_
  exact ⟨rfl, below_new w _⟩
set_option maxRecDepth 4000 in
set_option maxHeartbeats 4000000 in
theorem openShelf_yes (g o l c n : Nat) (w : World) (hn : n ≤ 16777216) (h : 4 * (n + 1) ≤ l) (hc : l ≤ c) (hm : c ≤ 9223372036854775807) :
    Calls Try.prog 23 #[.slice (some ⟨g, o, none⟩) l c, .int .i64 (n : Int)] w fun e w' => ∃ oh, e = .returned (.tuple #[.agg #[.slice (some ⟨g, o, none⟩) (4 * (n + 1)) (4 * (n + 1)), .slice (some ⟨g, oh, none⟩) (l - 4 * (n + 1)) (c - 4 * (n + 1))], .bool true]) ∧ (4 * (n + 1) < c → oh = o + 4 * (n + 1)) ∧ Below w.heap.size w w' := by
  have HE := hid (fun W => endsSize_any n W hn)
  obtain ⟨k, hk⟩ : ∃ k, 4 * (n + 1) = k := ⟨_, rfl⟩
  rw [hk] at HE h ⊢
  have h' : (k : Int) ≤ (l : Int) := by omega
  have h2' : (k : Int) ≤ (c : Int) := by omega
  have h3' : (l : Int) ≤ (c : Int) := by omega
  have h4 : k ≤ c := by omega
  have h5 : IntKind.i64.wrap (k : Int) = (k : Int) := by rw [IntKind.wrap_i64]; omega
  clear hk
  by_cases hck : c = k
  · subst hck
    obtain rfl : l = c := by omega
    go_enter Try.func23, Try.ntmps23
    go_wp2_with (go_at_call 28; refine (HE.out _).mono ?_; rintro e w2 ⟨rfl, hw2⟩; subst w2)
    go_region_with (fail)
    all_goals
      go_wp2_with fail
      refine bodyPost_ret (by rw [results_cell_tmp rfl]; go_simp; rfl) rfl ?_
      refine ⟨o, by rw [Nat.sub_self], fun h => absurd h (by omega), ?_⟩
      exact below_drewN (below_new w _) 1
  · have hck2 : k < c := by omega
    go_enter Try.func23, Try.ntmps23
    go_wp2_with (go_at_call 28; refine (HE.out _).mono ?_; rintro e w2 ⟨rfl, hw2⟩; subst w2)
    go_region_with (fail)
    all_goals
      go_wp2_with fail
      refine bodyPost_ret (by rw [results_cell_tmp rfl]; go_simp; rfl) rfl ?_
      refine ⟨_, rfl, fun h => rfl, ?_⟩
      exact below_drewN (below_new w _) 1
/-- Bytes as a shelf of n texts. -/
structure Shf (w : World) (g o n oh hc : Nat) (l : List Nat) : Prop where
  bytes : Bytes w (some ⟨g, o, none⟩) l
  lt : ∀ x ∈ l, x < 256
  len : 4 * (n + 1) ≤ l.length
  heap : Bytes w (some ⟨g, oh, none⟩) (heapOf l n)
  room : (heapOf l n).length ≤ hc
  top : hc ≤ 9223372036854775807
  many : n ≤ 16777216
theorem Shf.later {w w' : World} {g o n oh hc : Nat} {l : List Nat} (h : Shf w g o n oh hc l) (hb : Below w.heap.size w w') : Shf w' g o n oh hc l := ⟨h.bytes.later hb, h.lt, h.len, h.heap.later hb, h.room, h.top, h.many⟩
def shelfV (g o n oh hl hc : Nat) : Value := .agg #[.slice (some ⟨g, o, none⟩) (4 * (n + 1)) (4 * (n + 1)), .slice (some ⟨g, oh, none⟩) hl hc]
theorem shf_of {w : World} {g o n oh c : Nat} {l : List Nat} (hA : Bytes w (some ⟨g, o, none⟩) l) (hb : ∀ x ∈ l, x < 256) (hn : n ≤ 16777216) (h : 4 * (n + 1) ≤ l.length) (hc : l.length ≤ c) (hm : c ≤ 9223372036854775807) (ho : 4 * (n + 1) < c → oh = o + 4 * (n + 1)) : Shf w g o n oh (c - 4 * (n + 1)) l := by
  have hl : (heapOf l n).length = l.length - 4 * (n + 1) := by unfold heapOf; rw [List.length_drop]
  refine ⟨hA, hb, h, ?_, by omega, by omega, hn⟩
  by_cases h0 : (heapOf l n).length = 0
  · intro j hj; omega
  · rw [ho (by omega)]
    have := bytes_sub hA (t := 4 * (n + 1)) (n := l.length - 4 * (n + 1)) (by omega)
    rwa [List.take_of_length_le (by rw [List.length_drop]; omega)] at this
set_option maxRecDepth 4000 in
set_option maxHeartbeats 4000000 in
theorem end_any {w : World} {g o n oh hc : Nat} {l : List Nat} (h : Shf w g o n oh hc l) (hl i : Nat) (hi : i ≤ n) :
    Calls Try.prog 25 #[.agg #[.slice (some ⟨g, o, none⟩) (4 * (n + 1)) (4 * (n + 1)), .slice (some ⟨g, oh, none⟩) hl hc], .int .i64 (i : Int)] w fun e w' => e = .returned (.int .u64 (numAt 4 l i : Nat)) ∧ Below w.heap.size w w' := by
  have hlen := h.len
  have hmany := h.many
  have hs := sub_len (l := l) (t := 4 * i) (n := 4) (by omega)
  have HN := hid (fun (W : World) (hb : Below w.heap.size w W) => number_any (some ⟨g, o + 4 * i, none⟩) _ (4 * (n + 1) - 4 * i) W (bytes_sub (h.bytes.later hb) (t := 4 * i) (n := 4) (by omega)) (sub_lt h.lt (4 * i) 4) (by rw [hs]; omega))
  rw [hs] at HN
  have HE : Hid (unfx ((l.drop (4 * i)).take 4) = numAt 4 l i) := rfl
  rw [HE.out] at HN
  have hu : numAt 4 l i < 4294967296 := numAt_lt h.lt 4 i
  generalize numAt 4 l i = u at *
  obtain ⟨c, hcc⟩ : ∃ c, 4 * (n + 1) = c := ⟨_, rfl⟩
  have e1 : (i : Int) * 4 = ((4 * i : Nat) : Int) := by omega
  obtain ⟨k, hk⟩ : ∃ k, 4 * i = k := ⟨_, rfl⟩
  rw [hk] at HN e1
  rw [hcc] at HN ⊢
  have hk2 : k + 4 ≤ c := by omega
  have hk3 : k < c := by omega
  have hk4 : ¬ c = k := by omega
  have hk5 : c ≤ 67108868 := by omega
  have hb := below_new w (.cells #[.slice (some ⟨g, o, none⟩) c c, .slice (some ⟨g, oh, none⟩) hl hc] 55)
  have HB := hid hb
  clear HE hs hk hcc hlen h hb
  go_enter Try.func25, Try.ntmps25
  go_wp2_with (go_at_call 29; refine (HN.out _ HB.out).mono ?_; rintro e w2 ⟨rfl, rfl⟩)
  go_ret
  exact ⟨rfl, HB.out⟩
end Go.Proofs.Ytmmdncpiidglcaa
