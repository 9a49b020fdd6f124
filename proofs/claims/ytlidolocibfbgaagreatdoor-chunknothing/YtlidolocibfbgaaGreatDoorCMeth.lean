/-
  parts, Rows, Count of a chunk of Ints by Runs.
-/
import Derived.Test.YtlidolocibfbgaaGreatDoorCRead
namespace Go.Proofs.YtlidolocibfbgaaGreatDoor.Ck
open Go.ChangeShapes Go.WideShapes Go.ChangeAt Go.RowKit Rn Cu

def chV (nm : ByteArray) (nb : Bool) (d : Nat) (v : Value) : Value := .agg #[.string nm, .int .i64 1, .bool nb, .int .i64 3, .int .i64 0, .pointer (some ⟨d, 0, none⟩), .iface 106 (.agg #[v])]
theorem field2 (nm : ByteArray) (nb : Bool) (d : Nat) (v : Value) (W : World) : (Instr.field 30 (.agg #[.string nm, .int .i64 1, .bool nb, .int .i64 3, .int .i64 0, .pointer (some ⟨d, 0, none⟩), .iface 106 (.agg #[v])]) 2).run Tryz.prog W = .ok (.pointer (some ⟨d, 0, none⟩)) W := by kernel_rfl
theorem field3 (nm : ByteArray) (nb : Bool) (d : Nat) (v : Value) (W : World) : (Instr.field 30 (.agg #[.string nm, .int .i64 1, .bool nb, .int .i64 3, .int .i64 0, .pointer (some ⟨d, 0, none⟩), .iface 106 (.agg #[v])]) 3).run Tryz.prog W = .ok (.iface 106 (.agg #[v])) W := by kernel_rfl
def ChC (w : World) (p : Nat) (nm : ByteArray) (nb : Bool) (d : Nat) (v : Value) : Prop := w.heap[p]? = some (.cells #[.string nm, .int .i64 1, .bool nb, .int .i64 3, .int .i64 0, .pointer (some ⟨d, 0, none⟩), .iface 106 (.agg #[v])] 30 (0, 0))
theorem ChC.later {w w' : World} {p : Nat} {nm : ByteArray} {nb : Bool} {d : Nat} {v : Value} (h : ChC w p nm nb d v) (hb : Below w.heap.size w w') : ChC w' p nm nb d v := (hb.block p (Array.getElem?_eq_some_iff.1 h).1).trans h
set_option maxRecDepth 8000 in
set_option maxHeartbeats 2000000 in
theorem parts_any (p : Nat) (nm : ByteArray) (nb : Bool) (d : Nat) (v : Value) (w : World) (h : ChC w p nm nb d v) :
    Calls Tryz.prog 33 #[.pointer (some ⟨p, 0, none⟩)] w fun e w' => e = .returned (chV nm nb d v) ∧ Below w.heap.size w w' := by
  have hp : p < w.heap.size := (Array.getElem?_eq_some_iff.1 h).1
  obtain ⟨w2, hw2⟩ : ∃ w2, w.alloc (.cells #[.string nm, .int .i64 1, .bool nb, .int .i64 3, .int .i64 0, .pointer (some ⟨d, 0, none⟩), .iface 106 (.agg #[v])] 30) = w2 := ⟨_, rfl⟩
  have b2 : Below w.heap.size w w2 := by rw [← hw2]; exact below_new _ _
  have h2 : w2.heap[w.heap.size]? = some (.cells #[.string nm, .int .i64 1, .bool nb, .int .i64 3, .int .i64 0, .pointer (some ⟨d, 0, none⟩), .iface 106 (.agg #[v])] 30 (0, 0)) := by rw [← hw2]; exact World.alloc_heap_new w _
  have HR := hid (ch_cells h2)
  have HW := hid hw2
  have HB := hid b2
  obtain ⟨c0, c1, c2, c3, c4, c5, c6⟩ := ch_cells h
  unfold chV
  clear hw2 h2 b2 h
  go_enter Tryz.func33, Tryz.ntmps33
  go_wp2_with fail
  rw [HW.out]
  obtain ⟨y0, y1, y2, y3, y4, y5, y6⟩ := HR.out
  refine bodyPost_ret (v := .agg #[.string nm, .int .i64 1, .bool nb, .int .i64 3, .int .i64 0, .pointer (some ⟨d, 0, none⟩), .iface 106 (.agg #[v])]) (by simp [results, Tryz.results33, go_sem, y0, y1, y2, y3, y4, y5, y6]) rfl ?_
  exact ⟨rfl, HB.out⟩
set_option maxRecDepth 8000 in
set_option maxHeartbeats 2000000 in
theorem rows_any (p : Nat) (nm : ByteArray) (nb : Bool) (d gw n : Nat) (ws : List Nat) (v : Value) (w : World) (h : ChC w p nm nb d v) (hS : Bt.NewSet w d gw n ws) :
    Calls Tryz.prog 12 #[.pointer (some ⟨p, 0, none⟩)] w fun e w' => e = .returned (.int .i64 (n : Int)) ∧ Below w.heap.size w w' := by
  have HP := hid (parts_any p nm nb d v w h)
  have HS := hid hS
  unfold chV at HP
  clear h hS
  go_enter Tryz.func12, Tryz.ntmps12
  go_wp2_with fail
  refine HP.out.mono ?_
  rintro e w1 ⟨rfl, b1⟩
  have HL := hid (Bt.len_set d n ws w1 (set_later HS.out b1).is)
  have HB := hid b1
  clear b1 HP
  have hfd := field2 nm nb d v
  go_wp2_with fail
  refine HL.out.mono ?_
  rintro e w2 ⟨rfl, hw⟩
  subst hw
  go_wp2_with fail
  go_ret
  exact ⟨rfl, HB.out⟩
set_option maxRecDepth 8000 in
set_option maxHeartbeats 2000000 in
theorem count_any (p : Nat) (nm : ByteArray) (nb : Bool) (d gw n q : Nat) (f : Nat → Bool) (v : Value) (w : World) (h : ChC w p nm nb d v) (hS : Bt.NewSet w d gw n (Bt.packF n f)) (hn : n ≤ 16777216) (ht : Bt.Tail n f) (hq : Bt.cnt f n = q) (hqn : q ≤ n) :
    Calls Tryz.prog 13 #[.pointer (some ⟨p, 0, none⟩)] w fun e w' => e = .returned (.int .i64 ((n - q : Nat) : Int)) ∧ Below w.heap.size w w' := by
  have HRw := hid (rows_any p nm nb d gw n _ v w h hS)
  have HS := hid hS
  have HC := hid h
  have HT := hid ht
  have HQ := hid hq
  obtain ⟨m, hm⟩ : ∃ m, n - q = m := ⟨_, rfl⟩
  have e1 : (n : Int) - (q : Int) = (m : Int) := by omega
  have e2 : IntKind.i64.wrap (m : Int) = (m : Int) := by rw [IntKind.wrap_i64]; omega
  rw [hm]
  clear h hS ht hq hm
  go_enter Tryz.func13, Tryz.ntmps13
  go_wp2_with fail
  refine HRw.out.mono ?_
  rintro e w1 ⟨rfl, b1⟩
  have HP := hid (parts_any p nm nb d v w1 (HC.out.later b1))
  unfold chV at HP
  replace HS := hid (set_later HS.out b1)
  have HB := hid b1
  clear b1 HRw
  go_wp2_with fail
  refine HP.out.mono ?_
  rintro e w2 ⟨rfl, b2⟩
  have HL := hid (Bt.count_any d n f w2 (set_later HS.out b2).is hn HT.out)
  rw [HQ.out] at HL
  replace HB := hid (below_up HB.out b2)
  clear b2 HP
  have hfd := field2 nm nb d v
  go_wp2_with fail
  refine HL.out.mono ?_
  rintro e w3 ⟨rfl, hw⟩
  subst hw
  go_wp2_with fail
  go_ret
  exact ⟨rfl, HB.out⟩
end Go.Proofs.YtlidolocibfbgaaGreatDoor.Ck
