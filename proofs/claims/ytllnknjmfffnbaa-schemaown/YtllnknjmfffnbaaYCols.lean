/-
  The law's columns, twin; lists of columns that were made.
-/
import Derived.Test.YtllnknjmfffnbaaYSame
namespace Go.Proofs.Ytllnknjmfffnbaa
open Go.ChangeShapes Go.WideShapes Go.ChangeAt Go.RowKit Cu

theorem infoC : (Try.prog.info? 25).map (fun i => (i.zero, i.size, i.bytes)) = some (some (.agg #[.string ByteArray.empty, .int .i64 0, .bool false]), 3, 32) := by kernel_rfl
/-- A new list of columns. -/
def NewC (w w' : World) (v : Value) (l : List Col) : Prop := OwnL cc 3 w' w.heap.size 25 v l ∧ Below w.heap.size w w'
theorem NewC.form {w w' : World} {v : Value} {l : List Col} (h : NewC w w' v l) : ∃ a c, v = .slice a l.length c ∧ (a = none → l.length = 0 ∧ c = 0) ∧ Lst cc 3 w' a l := by
  obtain ⟨a, c, rfl, _, _, h3, h4, _⟩ := h.1.form cc_len
  exact ⟨a, c, rfl, h3, h4⟩
theorem NewC.up {w w1 w2 : World} {v : Value} {l : List Col} (h : NewC w1 w2 v l) (hb : Below w.heap.size w w1) : NewC w w2 v l := ⟨h.1.low hb.size, below_up hb h.2⟩
theorem NewC.later {w w1 w2 : World} {v : Value} {l : List Col} (h : NewC w w1 v l) (hb : Below w1.heap.size w1 w2) : NewC w w2 v l := ⟨h.1.later hb, below_up h.2 hb⟩
set_option maxHeartbeats 1000000 in
theorem columns_any (a : Option Addr) (l : List Col) (d : Nat) (w : World) (hL : Lst cc 3 w a l) (ha : a = none → l.length = 0 ∧ d = 0) (hl : l.length * 32 ≤ 140737488355328) :
    Calls Try.prog 11 #[.slice a l.length d] w fun e w' => ∃ v, e = .returned v ∧ NewC w w' v l := by
  obtain ⟨v1, w1, hr, h1, h2⟩ := lst_many (f := cc) (k := 3) cc_len (by omega) cc_one (B := w.heap.size) (t := 22) (ty := 22) (c := d) Try.underlying22 infoC rfl (OwnL.nil cc 3 w w.heap.size 25) hL ha (by simpa using hl) (by omega) (Nat.le_refl _)
  rw [List.nil_append] at h1
  have H := hid (And.intro h1 (h2 w (Below.refl _ _)))
  have HR := hid hr
  clear hr h1 h2 hL ha hl
  go_enter Try.func11, Try.ntmps11
  go_wp2_with (at_builtin; refine wpList_app rfl rfl HR.out ?_)
  go_ret
  exact ⟨_, rfl, H.out⟩
set_option maxHeartbeats 1000000 in
theorem twin_any (a : Option Addr) (l : List Nat) (d : Nat) (w : World) (hL : Bytes w a l) (ha : a = none → l.length = 0 ∧ d = 0) (hl : l.length ≤ 140737488355328) :
    Calls Try.prog 13 #[.slice a l.length d] w fun e w' => ∃ v, e = .returned v ∧ NewL w w' v l := by
  obtain ⟨v1, w1, hr, h1, h2⟩ := run_appL (w := w) (B := w.heap.size) (v := .slice none 0 0) (l := []) (c := d) (Own.nil w w.heap.size 5 .u8 (ofL [])) hL ha (by simpa using hl) (Nat.le_refl _)
  rw [List.nil_append] at h1
  have H := hid (And.intro h1 (h2 w (Below.refl _ _)))
  have HR := hid hr
  clear hr h1 h2 hL ha hl
  go_enter Try.func13, Try.ntmps13
  go_wp2_with (at_builtin; refine wpList_app rfl rfl HR.out ?_)
  go_ret
  exact ⟨_, rfl, H.out⟩
end Go.Proofs.Ytllnknjmfffnbaa
