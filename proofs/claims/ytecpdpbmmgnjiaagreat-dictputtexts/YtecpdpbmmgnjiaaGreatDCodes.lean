/-
  dict's codesOf of whole numbers.
-/
import Derived.Test.YtecpdpbmmgnjiaaGreatDLots
import Derived.Test.YtecpdpbmmgnjiaaGreatDRow
namespace Go.Proofs.YtecpdpbmmgnjiaaGreat
open Go.ChangeShapes Go.WideShapes Go.ChangeAt Go.RowKit Cu

def codeF (ks : List Int) (f : Int → Nat) (x : Int) : Nat := if x ∈ ks then f x else 0
def cvals (l : List Nat) : List Value := l.map fun (x : Nat) => Value.int .u32 (x : Int)
theorem cvals_len (l : List Nat) : (cvals l).length = l.length := List.length_map _
theorem make_u32 (w : World) (m : Nat) (hm : m * 4 ≤ 140737488355328) : (Instr.makeSlice 31 (.int .i64 (m : Int)) (.int .i64 (m : Int))).run Tryz.prog w = .ok (.slice (some ⟨w.heap.size, 0, none⟩) m m) (w.alloc (.cells (madeCells #[.int .u32 0] m) 58)) := by
  obtain ⟨i0, hi, hz0, hz1, hz2⟩ := info_parts infoU32
  have hmk := run_make (P := Tryz.prog) w 31 58 i0 (.int .u32 0) Tryz.underlying31 hi hz0 .i64 .i64 (m : Int) (m : Int) (by omega) (by omega) (by rw [hz2]; omega) (by omega)
  rw [hz1, show (m : Int).toNat * 1 = m by omega, show (m : Int).toNat = m by omega, show (Value.int .u32 0).cells = #[Value.int .u32 0] from rfl] at hmk
  exact hmk
/-- What stands of the codes behind i values. -/
def codesTo (ks : List Int) (f : Int → Nat) (l : List Int) (i : Nat) : List Value := cvals ((l.take i).map (codeF ks f)) ++ List.replicate (l.length - i) (.int .u32 0)
theorem codesTo_len (ks : List Int) (f : Int → Nat) (l : List Int) {i : Nat} (hi : i ≤ l.length) : (codesTo ks f l i).length = l.length := by
  unfold codesTo
  rw [List.length_append, cvals_len, List.length_map, List.length_take, List.length_replicate]
  omega
theorem codesTo_next (ks : List Int) (f : Int → Nat) {l : List Int} {i : Nat} {x : Int} (hx : l[i]? = some x) : (codesTo ks f l i).set i (.int .u32 (codeF ks f x : Nat)) = codesTo ks f l (i + 1) := by
  have hi := (List.getElem?_eq_some_iff.1 hx).1
  have hl : (cvals ((l.take i).map (codeF ks f))).length = i := by rw [cvals_len, List.length_map, List.length_take]; omega
  unfold codesTo
  rw [List.set_append, if_neg (by omega), hl, Nat.sub_self, show l.length - i = (l.length - (i + 1)) + 1 by omega, List.replicate_succ, List.set_cons_zero, List.take_add_one, hx]
  simp [cvals]
set_option maxRecDepth 20000 in
set_option maxHeartbeats 4000000 in
theorem codesOf_any (ob mb : Nat) (ks : List Int) (f : Int → Nat) (a : Option Addr) (l : List Int) (c : Nat) (w : World) (h : Lots w ob mb ks f) (hA : IntsA w a l) (hin : ∀ x ∈ l, In64 x) (hn : l.length ≤ 1099511627775) :
    Calls Tryz.prog 23 #[.pointer (some ⟨ob, 0, none⟩), .slice a l.length c] w fun e w' => ∃ a' c', e = .returned (.slice a' l.length c') ∧ w'.ownsRow w.heap.size 58 1 (.slice a' l.length c') (cvals (l.map (codeF ks f))).length (cvals (l.map (codeF ks f))) ∧ Below w.heap.size w w' := by
  have HH := hid h
  have HA := hid hA
  have HIN := hid hin
  have hmk := make_u32 w l.length (by omega)
  have hr0 := row_made w 58 (.int .u32 0) l.length (by simp only [maxLen]; omega)
  have hb0 := below_new w (.cells (madeCells #[.int .u32 0] l.length) 58)
  obtain ⟨w1, hw1⟩ : ∃ w1, w.alloc (.cells (madeCells #[.int .u32 0] l.length) 58) = w1 := ⟨_, rfl⟩
  rw [hw1] at hmk hr0 hb0
  have R0 : Hid (w1.ownsRow w.heap.size 58 1 (.slice (some ⟨w.heap.size, 0, none⟩) l.length l.length) (codesTo ks f l 0).length (codesTo ks f l 0)) := by
    have e : codesTo ks f l 0 = List.replicate l.length (.int .u32 0) := by unfold codesTo cvals; simp
    rw [e]
    exact hr0
  have B0 := hid hb0
  clear h hA hin hr0 hb0 hw1
  go_enter Tryz.func23, Tryz.ntmps23
  go_wp2_with fail
  clear hmk
  obtain ⟨cb, hcb⟩ : ∃ cb, w.heap.size = cb := ⟨_, rfl⟩
  have HCB := hid hcb
  rw [hcb] at R0 B0 ⊢
  clear hcb
  go_loopw [13] (fun y wr => ∃ i : Nat, i ≤ l.length ∧ y = .int .i64 (i : Int) ∧ Hid (wr.ownsRow cb 58 1 (.slice (some ⟨cb, 0, none⟩) l.length l.length) (codesTo ks f l i).length (codesTo ks f l i) ∧ Below cb w wr)) (fun y _ => l.length - (intOf y).toNat)
  case atStart => exact ⟨0, Nat.zero_le _, rfl, R0.out, B0.out⟩
  case round =>
    clear R0 B0
    obtain ⟨i, hi, rfl, HQ⟩ := hrel
    have hbl : Below w.heap.size w wr := by rw [HCB.out]; exact HQ.out.2
    by_cases hlt : i < l.length
    · have hii : (i : Int) < (l.length : Int) := by omega
      have hs : l[i]? = some l[i] := List.getElem?_eq_getElem hlt
      have hx64 := HIN.out _ (List.getElem_mem hlt)
      generalize l[i] = x at hs hx64
      obtain ⟨g, o, ea, _, hc⟩ := (HA.out.later hbl) i x hs
      subst ea
      have hL := HH.out.later hbl
      obtain ⟨c0, c1⟩ := hL.cells
      have hlk := hL.map.look hx64
      obtain ⟨g', cg, hv, hg1, hg2, hd1, hd2, -, hst⟩ := row_store HQ.out.1 (i := i) (by rw [codesTo_len ks f l hi]; exact hlt)
      simp only [Value.slice.injEq, Option.some.injEq, Addr.mk.injEq, and_true] at hv
      obtain ⟨hv1, hv2, hv3⟩ := hv
      subst hv1
      have HN : Hid ((wr.setCell ⟨cb, i, none⟩ (.int .u32 (codeF ks f x : Nat))).ownsRow cb 58 1 (.slice (some ⟨cb, 0, none⟩) l.length l.length) (codesTo ks f l (i + 1)).length (codesTo ks f l (i + 1)) ∧ Below cb w (wr.setCell ⟨cb, i, none⟩ (.int .u32 (codeF ks f x : Nat)))) := by
        have h2 := hst (.int .u32 (codeF ks f x : Nat))
        rw [codesTo_next ks f hs, codesTo_len ks f l hi] at h2
        rw [codesTo_len ks f l (by omega)]
        exact ⟨h2, HQ.out.2.setCell (Nat.le_refl _) _⟩
      have hcf : ((if x ∈ ks then f x else 0 : Nat) : Int) = ((codeF ks f x : Nat) : Int) := rfl
      rw [hcf] at hlk
      generalize codeF ks f x = v at hlk HN
      generalize (codesTo ks f l i)[i]'(by rw [codesTo_len ks f l hi]; exact hlt) = old at hd1
      clear hst hL hbl HQ hcf hv2 hv3 hg1 hg2
      go_wp2_with fail
      exact ⟨⟨i + 1, by omega, by go_num, HN⟩, by simp [intOf]; omega⟩
    · obtain rfl : l.length = i := by omega
      have HF : Hid (wr.ownsRow w.heap.size 58 1 (.slice (some ⟨cb, 0, none⟩) l.length l.length) (cvals (l.map (codeF ks f))).length (cvals (l.map (codeF ks f))) ∧ Below w.heap.size w wr) := by
        have e : codesTo ks f l l.length = cvals (l.map (codeF ks f)) := by unfold codesTo; simp
        have := HQ.out.1
        rw [e, ← HCB.out] at this
        rw [← HCB.out]
        exact ⟨this, hbl⟩
      clear HQ hbl
      go_wp2_with fail
      go_ret
      exact ⟨_, _, rfl, HF.out.1, HF.out.2⟩
end Go.Proofs.YtecpdpbmmgnjiaaGreat
