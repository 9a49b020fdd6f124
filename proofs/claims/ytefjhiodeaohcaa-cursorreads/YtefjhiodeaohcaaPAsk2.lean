/-
  What ask answers, by kinds.
-/
import Derived.Test.YtefjhiodeaohcaaPAsk
namespace Go.Proofs.Ytefjhiodeaohcaa
open Go.RowKit Cu

set_option maxRecDepth 4000 in
set_option maxHeartbeats 2000000 in
theorem ask0 {w : World} {lo hi g : Nat} {r : Rd} (h : ProgRd w lo hi g r) (a b c d : Int) (hk : pickN b 13 = 0) : Calls Try.prog 14 #[.pointer (some ⟨g, 0, none⟩), stepV a b c d] w fun x w' => ProgRdPost w lo hi g (askM 0 c d r) x w' := by
  have hP := fun W => pick_any b 13 W (by omega) (by omega)
  rw [hk] at hP
  have HP := hid hP
  have hb1 := below_new w (.cells #[.int .i64 a, .int .i64 b, .int .i64 c, .int .i64 d] tStep)
  have hb2 : Below w.heap.size w ((w.alloc (.cells #[.int .i64 a, .int .i64 b, .int .i64 c, .int .i64 d] tStep)).alloc (.cells #[.int .u64 0, .slice none 0 0, .slice none 0 0] tTold)) := hb1.alloc hb1.size _
  have HC := hid (pTake_uint8 (h.later hb2))
  have HB := hid hb2
  have HR := hid (ask_row w (.cells #[.int .i64 a, .int .i64 b, .int .i64 c, .int .i64 d] tStep))
  have HZ : Hid (((w.alloc (.cells #[.int .i64 a, .int .i64 b, .int .i64 c, .int .i64 d] tStep)).alloc (.cells #[.int .u64 0, .slice none 0 0, .slice none 0 0] tTold)).heap.size = w.heap.size + 2) := by show _ = _; simp
  have hgl := Nat.lt_of_lt_of_le h.ghi h.top
  have hhi := h.top
  have hlt : (r.fix 1).1 < 18446744073709551616 := fix_top h.ok _ (by omega)
  clear h hP hb1 hb2
  show Calls _ _ _ _ fun x w' => ProgRdPost w lo hi g (⟨(r.fix 1).1, [], []⟩, (r.fix 1).2) x w'
  generalize r.fix 1 = R at *
  go_enter Try.func14, Try.ntmps14
  go_wp2_with (go_at_call 12; refine (HP.out _).mono ?_; rintro e w2 ⟨rfl, hw2⟩; subst w2)
  refine HC.out.mono ?_
  rintro e w3 ⟨rfl, h3, h4⟩
  have hr3 := (h4.block (w.heap.size + 1) (by simp) (by omega)).trans HR.out
  obtain ⟨k0, k1, k2, f0, f1, f2⟩ := told_cells hr3
  have H3 := hid h3
  have H4 := hid h4
  have HR3 := hid hr3
  clear HC HR h3 h4 hr3
  go_wp2_with fail
  refine bodyPost_ret (results_cell_row rfl _ _ (w.heap.size + 1) tTold _ (0, 0) _ rfl (told_row HR3.out _ _ _) Try.underlying39 rfl (by kernel_rfl)) rfl ?_
  exact ProgRdPost.fin HB.out HZ.out H4.out H3.out hgl (by first | rfl | exact u64_nat _ hlt) (Own.nil _ _ _ _ _) (OwnS.nil _ _) hhi
set_option maxRecDepth 4000 in
set_option maxHeartbeats 2000000 in
theorem ask1 {w : World} {lo hi g : Nat} {r : Rd} (h : ProgRd w lo hi g r) (a b c d : Int) (hk : pickN b 13 = 1) : Calls Try.prog 14 #[.pointer (some ⟨g, 0, none⟩), stepV a b c d] w fun x w' => ProgRdPost w lo hi g (askM 1 c d r) x w' := by
  have hP := fun W => pick_any b 13 W (by omega) (by omega)
  rw [hk] at hP
  have HP := hid hP
  have hb1 := below_new w (.cells #[.int .i64 a, .int .i64 b, .int .i64 c, .int .i64 d] tStep)
  have hb2 : Below w.heap.size w ((w.alloc (.cells #[.int .i64 a, .int .i64 b, .int .i64 c, .int .i64 d] tStep)).alloc (.cells #[.int .u64 0, .slice none 0 0, .slice none 0 0] tTold)) := hb1.alloc hb1.size _
  have HC := hid (pTake_uint16 (h.later hb2))
  have HB := hid hb2
  have HR := hid (ask_row w (.cells #[.int .i64 a, .int .i64 b, .int .i64 c, .int .i64 d] tStep))
  have HZ : Hid (((w.alloc (.cells #[.int .i64 a, .int .i64 b, .int .i64 c, .int .i64 d] tStep)).alloc (.cells #[.int .u64 0, .slice none 0 0, .slice none 0 0] tTold)).heap.size = w.heap.size + 2) := by show _ = _; simp
  have hgl := Nat.lt_of_lt_of_le h.ghi h.top
  have hhi := h.top
  have hlt : (r.fix 2).1 < 18446744073709551616 := fix_top h.ok _ (by omega)
  clear h hP hb1 hb2
  show Calls _ _ _ _ fun x w' => ProgRdPost w lo hi g (⟨(r.fix 2).1, [], []⟩, (r.fix 2).2) x w'
  generalize r.fix 2 = R at *
  go_enter Try.func14, Try.ntmps14
  go_wp2_with (go_at_call 12; refine (HP.out _).mono ?_; rintro e w2 ⟨rfl, hw2⟩; subst w2)
  refine HC.out.mono ?_
  rintro e w3 ⟨rfl, h3, h4⟩
  have hr3 := (h4.block (w.heap.size + 1) (by simp) (by omega)).trans HR.out
  obtain ⟨k0, k1, k2, f0, f1, f2⟩ := told_cells hr3
  have H3 := hid h3
  have H4 := hid h4
  have HR3 := hid hr3
  clear HC HR h3 h4 hr3
  go_wp2_with fail
  refine bodyPost_ret (results_cell_row rfl _ _ (w.heap.size + 1) tTold _ (0, 0) _ rfl (told_row HR3.out _ _ _) Try.underlying39 rfl (by kernel_rfl)) rfl ?_
  exact ProgRdPost.fin HB.out HZ.out H4.out H3.out hgl (by first | rfl | exact u64_nat _ hlt) (Own.nil _ _ _ _ _) (OwnS.nil _ _) hhi
set_option maxRecDepth 4000 in
set_option maxHeartbeats 2000000 in
theorem ask2 {w : World} {lo hi g : Nat} {r : Rd} (h : ProgRd w lo hi g r) (a b c d : Int) (hk : pickN b 13 = 2) : Calls Try.prog 14 #[.pointer (some ⟨g, 0, none⟩), stepV a b c d] w fun x w' => ProgRdPost w lo hi g (askM 2 c d r) x w' := by
  have hP := fun W => pick_any b 13 W (by omega) (by omega)
  rw [hk] at hP
  have HP := hid hP
  have hb1 := below_new w (.cells #[.int .i64 a, .int .i64 b, .int .i64 c, .int .i64 d] tStep)
  have hb2 : Below w.heap.size w ((w.alloc (.cells #[.int .i64 a, .int .i64 b, .int .i64 c, .int .i64 d] tStep)).alloc (.cells #[.int .u64 0, .slice none 0 0, .slice none 0 0] tTold)) := hb1.alloc hb1.size _
  have HC := hid (pTake_uint32 (h.later hb2))
  have HB := hid hb2
  have HR := hid (ask_row w (.cells #[.int .i64 a, .int .i64 b, .int .i64 c, .int .i64 d] tStep))
  have HZ : Hid (((w.alloc (.cells #[.int .i64 a, .int .i64 b, .int .i64 c, .int .i64 d] tStep)).alloc (.cells #[.int .u64 0, .slice none 0 0, .slice none 0 0] tTold)).heap.size = w.heap.size + 2) := by show _ = _; simp
  have hgl := Nat.lt_of_lt_of_le h.ghi h.top
  have hhi := h.top
  have hlt : (r.fix 4).1 < 18446744073709551616 := fix_top h.ok _ (by omega)
  clear h hP hb1 hb2
  show Calls _ _ _ _ fun x w' => ProgRdPost w lo hi g (⟨(r.fix 4).1, [], []⟩, (r.fix 4).2) x w'
  generalize r.fix 4 = R at *
  go_enter Try.func14, Try.ntmps14
  go_wp2_with (go_at_call 12; refine (HP.out _).mono ?_; rintro e w2 ⟨rfl, hw2⟩; subst w2)
  refine HC.out.mono ?_
  rintro e w3 ⟨rfl, h3, h4⟩
  have hr3 := (h4.block (w.heap.size + 1) (by simp) (by omega)).trans HR.out
  obtain ⟨k0, k1, k2, f0, f1, f2⟩ := told_cells hr3
  have H3 := hid h3
  have H4 := hid h4
  have HR3 := hid hr3
  clear HC HR h3 h4 hr3
  go_wp2_with fail
  refine bodyPost_ret (results_cell_row rfl _ _ (w.heap.size + 1) tTold _ (0, 0) _ rfl (told_row HR3.out _ _ _) Try.underlying39 rfl (by kernel_rfl)) rfl ?_
  exact ProgRdPost.fin HB.out HZ.out H4.out H3.out hgl (by first | rfl | exact u64_nat _ hlt) (Own.nil _ _ _ _ _) (OwnS.nil _ _) hhi
set_option maxRecDepth 4000 in
set_option maxHeartbeats 2000000 in
theorem ask3 {w : World} {lo hi g : Nat} {r : Rd} (h : ProgRd w lo hi g r) (a b c d : Int) (hk : pickN b 13 = 3) : Calls Try.prog 14 #[.pointer (some ⟨g, 0, none⟩), stepV a b c d] w fun x w' => ProgRdPost w lo hi g (askM 3 c d r) x w' := by
  have hP := fun W => pick_any b 13 W (by omega) (by omega)
  rw [hk] at hP
  have HP := hid hP
  have hb1 := below_new w (.cells #[.int .i64 a, .int .i64 b, .int .i64 c, .int .i64 d] tStep)
  have hb2 : Below w.heap.size w ((w.alloc (.cells #[.int .i64 a, .int .i64 b, .int .i64 c, .int .i64 d] tStep)).alloc (.cells #[.int .u64 0, .slice none 0 0, .slice none 0 0] tTold)) := hb1.alloc hb1.size _
  have HC := hid (pTake_uint64 (h.later hb2))
  have HB := hid hb2
  have HR := hid (ask_row w (.cells #[.int .i64 a, .int .i64 b, .int .i64 c, .int .i64 d] tStep))
  have HZ : Hid (((w.alloc (.cells #[.int .i64 a, .int .i64 b, .int .i64 c, .int .i64 d] tStep)).alloc (.cells #[.int .u64 0, .slice none 0 0, .slice none 0 0] tTold)).heap.size = w.heap.size + 2) := by show _ = _; simp
  have hgl := Nat.lt_of_lt_of_le h.ghi h.top
  have hhi := h.top
  have hlt : (r.fix 8).1 < 18446744073709551616 := fix_top h.ok _ (by omega)
  clear h hP hb1 hb2
  show Calls _ _ _ _ fun x w' => ProgRdPost w lo hi g (⟨(r.fix 8).1, [], []⟩, (r.fix 8).2) x w'
  generalize r.fix 8 = R at *
  go_enter Try.func14, Try.ntmps14
  go_wp2_with (go_at_call 12; refine (HP.out _).mono ?_; rintro e w2 ⟨rfl, hw2⟩; subst w2)
  refine HC.out.mono ?_
  rintro e w3 ⟨rfl, h3, h4⟩
  have hr3 := (h4.block (w.heap.size + 1) (by simp) (by omega)).trans HR.out
  obtain ⟨k0, k1, k2, f0, f1, f2⟩ := told_cells hr3
  have H3 := hid h3
  have H4 := hid h4
  have HR3 := hid hr3
  clear HC HR h3 h4 hr3
  go_wp2_with fail
  refine bodyPost_ret (results_cell_row rfl _ _ (w.heap.size + 1) tTold _ (0, 0) _ rfl (told_row HR3.out _ _ _) Try.underlying39 rfl (by kernel_rfl)) rfl ?_
  exact ProgRdPost.fin HB.out HZ.out H4.out H3.out hgl (by first | rfl | exact u64_nat _ hlt) (Own.nil _ _ _ _ _) (OwnS.nil _ _) hhi
set_option maxRecDepth 4000 in
set_option maxHeartbeats 2000000 in
theorem ask4 {w : World} {lo hi g : Nat} {r : Rd} (h : ProgRd w lo hi g r) (a b c d : Int) (hk : pickN b 13 = 4) : Calls Try.prog 14 #[.pointer (some ⟨g, 0, none⟩), stepV a b c d] w fun x w' => ProgRdPost w lo hi g (askM 4 c d r) x w' := by
  have hP := fun W => pick_any b 13 W (by omega) (by omega)
  rw [hk] at hP
  have HP := hid hP
  have hb1 := below_new w (.cells #[.int .i64 a, .int .i64 b, .int .i64 c, .int .i64 d] tStep)
  have hb2 : Below w.heap.size w ((w.alloc (.cells #[.int .i64 a, .int .i64 b, .int .i64 c, .int .i64 d] tStep)).alloc (.cells #[.int .u64 0, .slice none 0 0, .slice none 0 0] tTold)) := hb1.alloc hb1.size _
  have HC := hid (pTake_tall (h.later hb2))
  have HB := hid hb2
  have HR := hid (ask_row w (.cells #[.int .i64 a, .int .i64 b, .int .i64 c, .int .i64 d] tStep))
  have HZ : Hid (((w.alloc (.cells #[.int .i64 a, .int .i64 b, .int .i64 c, .int .i64 d] tStep)).alloc (.cells #[.int .u64 0, .slice none 0 0, .slice none 0 0] tTold)).heap.size = w.heap.size + 2) := by show _ = _; simp
  have hgl := Nat.lt_of_lt_of_le h.ghi h.top
  have hhi := h.top
  have hlt : (r.fix 2).1 < 18446744073709551616 := fix_top h.ok _ (by omega)
  clear h hP hb1 hb2
  show Calls _ _ _ _ fun x w' => ProgRdPost w lo hi g (⟨(r.fix 2).1, [], []⟩, (r.fix 2).2) x w'
  generalize r.fix 2 = R at *
  go_enter Try.func14, Try.ntmps14
  go_wp2_with (go_at_call 12; refine (HP.out _).mono ?_; rintro e w2 ⟨rfl, hw2⟩; subst w2)
  refine HC.out.mono ?_
  rintro e w3 ⟨rfl, h3, h4⟩
  have hr3 := (h4.block (w.heap.size + 1) (by simp) (by omega)).trans HR.out
  obtain ⟨k0, k1, k2, f0, f1, f2⟩ := told_cells hr3
  have H3 := hid h3
  have H4 := hid h4
  have HR3 := hid hr3
  clear HC HR h3 h4 hr3
  go_wp2_with fail
  refine bodyPost_ret (results_cell_row rfl _ _ (w.heap.size + 1) tTold _ (0, 0) _ rfl (told_row HR3.out _ _ _) Try.underlying39 rfl (by kernel_rfl)) rfl ?_
  exact ProgRdPost.fin HB.out HZ.out H4.out H3.out hgl (by first | rfl | exact u64_nat _ hlt) (Own.nil _ _ _ _ _) (OwnS.nil _ _) hhi
set_option maxRecDepth 4000 in
set_option maxHeartbeats 2000000 in
theorem ask5 {w : World} {lo hi g : Nat} {r : Rd} (h : ProgRd w lo hi g r) (a b c d : Int) (hk : pickN b 13 = 5) : Calls Try.prog 14 #[.pointer (some ⟨g, 0, none⟩), stepV a b c d] w fun x w' => ProgRdPost w lo hi g (askM 5 c d r) x w' := by
  have hP := fun W => pick_any b 13 W (by omega) (by omega)
  rw [hk] at hP
  have HP := hid hP
  have hb1 := below_new w (.cells #[.int .i64 a, .int .i64 b, .int .i64 c, .int .i64 d] tStep)
  have hb2 : Below w.heap.size w ((w.alloc (.cells #[.int .i64 a, .int .i64 b, .int .i64 c, .int .i64 d] tStep)).alloc (.cells #[.int .u64 0, .slice none 0 0, .slice none 0 0] tTold)) := hb1.alloc hb1.size _
  have HC := hid (pUv (h.later hb2))
  have HB := hid hb2
  have HR := hid (ask_row w (.cells #[.int .i64 a, .int .i64 b, .int .i64 c, .int .i64 d] tStep))
  have HZ : Hid (((w.alloc (.cells #[.int .i64 a, .int .i64 b, .int .i64 c, .int .i64 d] tStep)).alloc (.cells #[.int .u64 0, .slice none 0 0, .slice none 0 0] tTold)).heap.size = w.heap.size + 2) := by show _ = _; simp
  have hgl := Nat.lt_of_lt_of_le h.ghi h.top
  have hhi := h.top
  have hlt : (r.uv).1 < 18446744073709551616 := uv_top h.ok
  clear h hP hb1 hb2
  show Calls _ _ _ _ fun x w' => ProgRdPost w lo hi g (⟨(r.uv).1, [], []⟩, (r.uv).2) x w'
  generalize r.uv = R at *
  go_enter Try.func14, Try.ntmps14
  go_wp2_with (go_at_call 12; refine (HP.out _).mono ?_; rintro e w2 ⟨rfl, hw2⟩; subst w2)
  refine HC.out.mono ?_
  rintro e w3 ⟨rfl, h3, h4⟩
  have hr3 := (h4.block (w.heap.size + 1) (by simp) (by omega)).trans HR.out
  obtain ⟨k0, k1, k2, f0, f1, f2⟩ := told_cells hr3
  have H3 := hid h3
  have H4 := hid h4
  have HR3 := hid hr3
  clear HC HR h3 h4 hr3
  go_wp2_with fail
  refine bodyPost_ret (results_cell_row rfl _ _ (w.heap.size + 1) tTold _ (0, 0) _ rfl (told_row HR3.out _ _ _) Try.underlying39 rfl (by kernel_rfl)) rfl ?_
  exact ProgRdPost.fin HB.out HZ.out H4.out H3.out hgl (by first | rfl | exact u64_nat _ hlt) (Own.nil _ _ _ _ _) (OwnS.nil _ _) hhi
set_option maxRecDepth 4000 in
set_option maxHeartbeats 2000000 in
theorem ask6 {w : World} {lo hi g : Nat} {r : Rd} (h : ProgRd w lo hi g r) (a b c d : Int) (hk : pickN b 13 = 6) : Calls Try.prog 14 #[.pointer (some ⟨g, 0, none⟩), stepV a b c d] w fun x w' => ProgRdPost w lo hi g (askM 6 c d r) x w' := by
  have hP := fun W => pick_any b 13 W (by omega) (by omega)
  rw [hk] at hP
  have HP := hid hP
  have hb1 := below_new w (.cells #[.int .i64 a, .int .i64 b, .int .i64 c, .int .i64 d] tStep)
  have hb2 : Below w.heap.size w ((w.alloc (.cells #[.int .i64 a, .int .i64 b, .int .i64 c, .int .i64 d] tStep)).alloc (.cells #[.int .u64 0, .slice none 0 0, .slice none 0 0] tTold)) := hb1.alloc hb1.size _
  have HC := hid (pVarint (h.later hb2))
  have HB := hid hb2
  have HR := hid (ask_row w (.cells #[.int .i64 a, .int .i64 b, .int .i64 c, .int .i64 d] tStep))
  have HZ : Hid (((w.alloc (.cells #[.int .i64 a, .int .i64 b, .int .i64 c, .int .i64 d] tStep)).alloc (.cells #[.int .u64 0, .slice none 0 0, .slice none 0 0] tTold)).heap.size = w.heap.size + 2) := by show _ = _; simp
  have hgl := Nat.lt_of_lt_of_le h.ghi h.top
  have hhi := h.top
  have hlt : (r.uv).1 < 18446744073709551616 := uv_top h.ok
  have hin := unfold_in hlt
  have HWr := hid (wrap_unfold (unfold' r.uv.1))
  have HIn := hid hin
  clear hin
  clear h hP hb1 hb2
  show Calls _ _ _ _ fun x w' => ProgRdPost w lo hi g (⟨((unfold' r.uv.1) % 18446744073709551616).toNat, [], []⟩, (r.uv).2) x w'
  generalize r.uv = R at *
  go_enter Try.func14, Try.ntmps14
  go_wp2_with (go_at_call 12; refine (HP.out _).mono ?_; rintro e w2 ⟨rfl, hw2⟩; subst w2)
  refine HC.out.mono ?_
  rintro e w3 ⟨rfl, h3, h4⟩
  have hr3 := (h4.block (w.heap.size + 1) (by simp) (by omega)).trans HR.out
  obtain ⟨k0, k1, k2, f0, f1, f2⟩ := told_cells hr3
  have H3 := hid h3
  have H4 := hid h4
  have HR3 := hid hr3
  clear HC HR h3 h4 hr3
  go_wp2_with fail
  refine bodyPost_ret (results_cell_row rfl _ _ (w.heap.size + 1) tTold _ (0, 0) _ rfl (told_row HR3.out _ _ _) Try.underlying39 rfl (by kernel_rfl)) rfl ?_
  exact ProgRdPost.fin HB.out HZ.out H4.out H3.out hgl (by first | exact HWr.out | exact (IntKind.wrap_u64 _).symm.trans HWr.out) (Own.nil _ _ _ _ _) (OwnS.nil _ _) hhi
set_option maxRecDepth 4000 in
set_option maxHeartbeats 2000000 in
theorem ask7 {w : World} {lo hi g : Nat} {r : Rd} (h : ProgRd w lo hi g r) (a b c d : Int) (hc : -9223372036854775808 ≤ c ∧ c ≤ 9223372036854775807) (hk : pickN b 13 = 7) : Calls Try.prog 14 #[.pointer (some ⟨g, 0, none⟩), stepV a b c d] w fun x w' => ProgRdPost w lo hi g (askM 7 c d r) x w' := by
  have hP := fun W => pick_any b 13 W (by omega) (by omega)
  rw [hk] at hP
  have HP := hid hP
  have hb1 := below_new w (.cells #[.int .i64 a, .int .i64 b, .int .i64 c, .int .i64 d] tStep)
  have hb2 : Below w.heap.size w ((w.alloc (.cells #[.int .i64 a, .int .i64 b, .int .i64 c, .int .i64 d] tStep)).alloc (.cells #[.int .u64 0, .slice none 0 0, .slice none 0 0] tTold)) := hb1.alloc hb1.size _
  have HC := hid (pBytes (h.later hb2) c hc.1 hc.2)
  have HB := hid hb2
  have HR := hid (ask_row w (.cells #[.int .i64 a, .int .i64 b, .int .i64 c, .int .i64 d] tStep))
  have HZ : Hid (((w.alloc (.cells #[.int .i64 a, .int .i64 b, .int .i64 c, .int .i64 d] tStep)).alloc (.cells #[.int .u64 0, .slice none 0 0, .slice none 0 0] tTold)).heap.size = w.heap.size + 2) := by show _ = _; simp
  have hgl := Nat.lt_of_lt_of_le h.ghi h.top
  have hhi := h.top
  clear h hP hb1 hb2
  show Calls _ _ _ _ fun x w' => ProgRdPost w lo hi g (⟨0, (r.bytes c).1, []⟩, (r.bytes c).2) x w'
  generalize r.bytes c = R at *
  go_enter Try.func14, Try.ntmps14
  go_wp2_with (go_at_call 12; refine (HP.out _).mono ?_; rintro e w2 ⟨rfl, hw2⟩; subst w2)
  refine HC.out.mono ?_
  rintro e w3 ⟨v3, rfl, h5, h3, h4⟩
  obtain ⟨a3, c3, rfl, _⟩ := h5.form
  have H5 := hid h5
  clear h5
  have hr3 := (h4.block (w.heap.size + 1) (by simp) (by omega)).trans HR.out
  obtain ⟨k0, k1, k2, f0, f1, f2⟩ := told_cells hr3
  have H3 := hid h3
  have H4 := hid h4
  have HR3 := hid hr3
  clear HC HR h3 h4 hr3
  go_wp2_with fail
  refine bodyPost_ret (results_cell_row rfl _ _ (w.heap.size + 1) tTold _ (0, 0) _ rfl (told_row HR3.out _ _ _) Try.underlying39 rfl (by kernel_rfl)) rfl ?_
  exact ProgRdPost.fin HB.out HZ.out H4.out H3.out hgl rfl H5.out (OwnS.nil _ _) hhi
set_option maxRecDepth 4000 in
set_option maxHeartbeats 2000000 in
theorem ask8 {w : World} {lo hi g : Nat} {r : Rd} (h : ProgRd w lo hi g r) (a b c d : Int) (hc : -9223372036854775808 ≤ c ∧ c ≤ 9223372036854775807) (hk : pickN b 13 = 8) : Calls Try.prog 14 #[.pointer (some ⟨g, 0, none⟩), stepV a b c d] w fun x w' => ProgRdPost w lo hi g (askM 8 c d r) x w' := by
  have hP := fun W => pick_any b 13 W (by omega) (by omega)
  rw [hk] at hP
  have HP := hid hP
  have hb1 := below_new w (.cells #[.int .i64 a, .int .i64 b, .int .i64 c, .int .i64 d] tStep)
  have hb2 : Below w.heap.size w ((w.alloc (.cells #[.int .i64 a, .int .i64 b, .int .i64 c, .int .i64 d] tStep)).alloc (.cells #[.int .u64 0, .slice none 0 0, .slice none 0 0] tTold)) := hb1.alloc hb1.size _
  have HC := hid (pBlock (h.later hb2) c hc.1 hc.2)
  have HB := hid hb2
  have HR := hid (ask_row w (.cells #[.int .i64 a, .int .i64 b, .int .i64 c, .int .i64 d] tStep))
  have HZ : Hid (((w.alloc (.cells #[.int .i64 a, .int .i64 b, .int .i64 c, .int .i64 d] tStep)).alloc (.cells #[.int .u64 0, .slice none 0 0, .slice none 0 0] tTold)).heap.size = w.heap.size + 2) := by show _ = _; simp
  have hgl := Nat.lt_of_lt_of_le h.ghi h.top
  have hhi := h.top
  clear h hP hb1 hb2
  show Calls _ _ _ _ fun x w' => ProgRdPost w lo hi g (⟨0, (r.block c).1, []⟩, (r.block c).2) x w'
  generalize r.block c = R at *
  go_enter Try.func14, Try.ntmps14
  go_wp2_with (go_at_call 12; refine (HP.out _).mono ?_; rintro e w2 ⟨rfl, hw2⟩; subst w2)
  refine HC.out.mono ?_
  rintro e w3 ⟨v3, rfl, h5, h3, h4⟩
  obtain ⟨a3, c3, rfl, _⟩ := h5.form
  have H5 := hid h5
  clear h5
  have hr3 := (h4.block (w.heap.size + 1) (by simp) (by omega)).trans HR.out
  obtain ⟨k0, k1, k2, f0, f1, f2⟩ := told_cells hr3
  have H3 := hid h3
  have H4 := hid h4
  have HR3 := hid hr3
  clear HC HR h3 h4 hr3
  go_wp2_with fail
  refine bodyPost_ret (results_cell_row rfl _ _ (w.heap.size + 1) tTold _ (0, 0) _ rfl (told_row HR3.out _ _ _) Try.underlying39 rfl (by kernel_rfl)) rfl ?_
  exact ProgRdPost.fin HB.out HZ.out H4.out H3.out hgl rfl H5.out (OwnS.nil _ _) hhi
set_option maxRecDepth 4000 in
set_option maxHeartbeats 2000000 in
theorem ask9 {w : World} {lo hi g : Nat} {r : Rd} (h : ProgRd w lo hi g r) (a b c d : Int) (hc : -9223372036854775808 ≤ c ∧ c ≤ 9223372036854775807) (hd : -9223372036854775808 ≤ d ∧ d ≤ 9223372036854775807) (hsm : r.l.length ≤ 1099511627776) (hk : pickN b 13 = 9) : Calls Try.prog 14 #[.pointer (some ⟨g, 0, none⟩), stepV a b c d] w fun x w' => ProgRdPost w lo hi g (askM 9 c d r) x w' := by
  have hP := fun W => pick_any b 13 W (by omega) (by omega)
  rw [hk] at hP
  have HP := hid hP
  have hb1 := below_new w (.cells #[.int .i64 a, .int .i64 b, .int .i64 c, .int .i64 d] tStep)
  have hb2 : Below w.heap.size w ((w.alloc (.cells #[.int .i64 a, .int .i64 b, .int .i64 c, .int .i64 d] tStep)).alloc (.cells #[.int .u64 0, .slice none 0 0, .slice none 0 0] tTold)) := hb1.alloc hb1.size _
  have HC := hid (pTexts (h.later hb2) c d hc.1 hc.2 hd.1 hd.2 hsm)
  have HB := hid hb2
  have HR := hid (ask_row w (.cells #[.int .i64 a, .int .i64 b, .int .i64 c, .int .i64 d] tStep))
  have HZ : Hid (((w.alloc (.cells #[.int .i64 a, .int .i64 b, .int .i64 c, .int .i64 d] tStep)).alloc (.cells #[.int .u64 0, .slice none 0 0, .slice none 0 0] tTold)).heap.size = w.heap.size + 2) := by show _ = _; simp
  have hgl := Nat.lt_of_lt_of_le h.ghi h.top
  have hhi := h.top
  clear h hP hb1 hb2
  show Calls _ _ _ _ fun x w' => ProgRdPost w lo hi g (⟨0, [], (r.texts c d).1⟩, (r.texts c d).2) x w'
  generalize r.texts c d = R at *
  go_enter Try.func14, Try.ntmps14
  go_wp2_with (go_at_call 12; refine (HP.out _).mono ?_; rintro e w2 ⟨rfl, hw2⟩; subst w2)
  refine HC.out.mono ?_
  rintro e w3 ⟨v3, rfl, h5, h3, h4⟩
  obtain ⟨a3, c3, rfl, _⟩ := h5.form
  have H5 := hid h5
  clear h5
  have hr3 := (h4.block (w.heap.size + 1) (by simp) (by omega)).trans HR.out
  obtain ⟨k0, k1, k2, f0, f1, f2⟩ := told_cells hr3
  have H3 := hid h3
  have H4 := hid h4
  have HR3 := hid hr3
  clear HC HR h3 h4 hr3
  go_wp2_with fail
  refine bodyPost_ret (results_cell_row rfl _ _ (w.heap.size + 1) tTold _ (0, 0) _ rfl (told_row HR3.out _ _ _) Try.underlying39 rfl (by kernel_rfl)) rfl ?_
  exact ProgRdPost.fin HB.out HZ.out H4.out H3.out hgl rfl (Own.nil _ _ _ _ _) (by have := H5.out; rw [List.length_map] at this; exact this) hhi
set_option maxRecDepth 4000 in
set_option maxHeartbeats 2000000 in
theorem ask10 {w : World} {lo hi g : Nat} {r : Rd} (h : ProgRd w lo hi g r) (a b c d : Int) (hk : pickN b 13 = 10) : Calls Try.prog 14 #[.pointer (some ⟨g, 0, none⟩), stepV a b c d] w fun x w' => ProgRdPost w lo hi g (askM 10 c d r) x w' := by
  have hP := fun W => pick_any b 13 W (by omega) (by omega)
  rw [hk] at hP
  have HP := hid hP
  have hb1 := below_new w (.cells #[.int .i64 a, .int .i64 b, .int .i64 c, .int .i64 d] tStep)
  have hb2 : Below w.heap.size w ((w.alloc (.cells #[.int .i64 a, .int .i64 b, .int .i64 c, .int .i64 d] tStep)).alloc (.cells #[.int .u64 0, .slice none 0 0, .slice none 0 0] tTold)) := hb1.alloc hb1.size _
  have HC := hid (pLeft (h.later hb2))
  have HB := hid hb2
  have HR := hid (ask_row w (.cells #[.int .i64 a, .int .i64 b, .int .i64 c, .int .i64 d] tStep))
  have HZ : Hid (((w.alloc (.cells #[.int .i64 a, .int .i64 b, .int .i64 c, .int .i64 d] tStep)).alloc (.cells #[.int .u64 0, .slice none 0 0, .slice none 0 0] tTold)).heap.size = w.heap.size + 2) := by show _ = _; simp
  have hgl := Nat.lt_of_lt_of_le h.ghi h.top
  have hhi := h.top
  have hlt : Rd.left r ≤ 140737488355328 := by have := h.len; unfold Rd.left; omega
  have HL := hid (h.later hb2)
  clear h hP hb1 hb2
  show Calls _ _ _ _ fun x w' => ProgRdPost w lo hi g (⟨Rd.left r, [], []⟩, r) x w'
  generalize Rd.left r = n at *
  go_enter Try.func14, Try.ntmps14
  go_wp2_with (go_at_call 12; refine (HP.out _).mono ?_; rintro e w2 ⟨rfl, hw2⟩; subst w2)
  refine HC.out.mono ?_
  rintro e w3 ⟨rfl, hw3⟩
  have h3 : ProgRd w3 lo hi g r := by rw [hw3]; exact HL.out
  have h4 : Hit g ((w.alloc (.cells #[.int .i64 a, .int .i64 b, .int .i64 c, .int .i64 d] tStep)).alloc (.cells #[.int .u64 0, .slice none 0 0, .slice none 0 0] tTold)) w3 := by rw [hw3]; exact Hit.refl _ _
  clear hw3
  have hr3 := (h4.block (w.heap.size + 1) (by simp) (by omega)).trans HR.out
  obtain ⟨k0, k1, k2, f0, f1, f2⟩ := told_cells hr3
  have H3 := hid h3
  have H4 := hid h4
  have HR3 := hid hr3
  clear HC HR h3 h4 hr3
  go_wp2_with fail
  refine bodyPost_ret (results_cell_row rfl _ _ (w.heap.size + 1) tTold _ (0, 0) _ rfl (told_row HR3.out _ _ _) Try.underlying39 rfl (by kernel_rfl)) rfl ?_
  exact ProgRdPost.fin HB.out HZ.out H4.out H3.out hgl (by first | rfl | exact u64_nat _ (by omega)) (Own.nil _ _ _ _ _) (OwnS.nil _ _) hhi
set_option maxRecDepth 4000 in
set_option maxHeartbeats 2000000 in
theorem ask11 {w : World} {lo hi g : Nat} {r : Rd} (h : ProgRd w lo hi g r) (a b c d : Int) (hk : pickN b 13 = 11) : Calls Try.prog 14 #[.pointer (some ⟨g, 0, none⟩), stepV a b c d] w fun x w' => ProgRdPost w lo hi g (askM 11 c d r) x w' := by
  have hP := fun W => pick_any b 13 W (by omega) (by omega)
  rw [hk] at hP
  have HP := hid hP
  have hb1 := below_new w (.cells #[.int .i64 a, .int .i64 b, .int .i64 c, .int .i64 d] tStep)
  have hb2 : Below w.heap.size w ((w.alloc (.cells #[.int .i64 a, .int .i64 b, .int .i64 c, .int .i64 d] tStep)).alloc (.cells #[.int .u64 0, .slice none 0 0, .slice none 0 0] tTold)) := hb1.alloc hb1.size _
  have HC := hid (pFault (h.later hb2))
  have HB := hid hb2
  have HR := hid (ask_row w (.cells #[.int .i64 a, .int .i64 b, .int .i64 c, .int .i64 d] tStep))
  have HZ : Hid (((w.alloc (.cells #[.int .i64 a, .int .i64 b, .int .i64 c, .int .i64 d] tStep)).alloc (.cells #[.int .u64 0, .slice none 0 0, .slice none 0 0] tTold)).heap.size = w.heap.size + 2) := by show _ = _; simp
  have hgl := Nat.lt_of_lt_of_le h.ghi h.top
  have hhi := h.top
  have hlt := h.low
  have HL := hid (h.later hb2)
  clear h hP hb1 hb2
  show Calls _ _ _ _ fun x w' => ProgRdPost w lo hi g (⟨r.e, [], []⟩, r) x w'
  obtain ⟨n, hn⟩ : ∃ n, r.e = n := ⟨_, rfl⟩
  rw [hn] at HC hlt ⊢
  clear hn
  go_enter Try.func14, Try.ntmps14
  go_wp2_with (go_at_call 12; refine (HP.out _).mono ?_; rintro e w2 ⟨rfl, hw2⟩; subst w2)
  refine HC.out.mono ?_
  rintro e w3 ⟨rfl, hw3⟩
  have h3 : ProgRd w3 lo hi g r := by rw [hw3]; exact HL.out
  have h4 : Hit g ((w.alloc (.cells #[.int .i64 a, .int .i64 b, .int .i64 c, .int .i64 d] tStep)).alloc (.cells #[.int .u64 0, .slice none 0 0, .slice none 0 0] tTold)) w3 := by rw [hw3]; exact Hit.refl _ _
  clear hw3
  have hr3 := (h4.block (w.heap.size + 1) (by simp) (by omega)).trans HR.out
  obtain ⟨k0, k1, k2, f0, f1, f2⟩ := told_cells hr3
  have H3 := hid h3
  have H4 := hid h4
  have HR3 := hid hr3
  clear HC HR h3 h4 hr3
  go_wp2_with fail
  refine bodyPost_ret (results_cell_row rfl _ _ (w.heap.size + 1) tTold _ (0, 0) _ rfl (told_row HR3.out _ _ _) Try.underlying39 rfl (by kernel_rfl)) rfl ?_
  exact ProgRdPost.fin HB.out HZ.out H4.out H3.out hgl (by first | rfl | exact u64_nat _ (by omega)) (Own.nil _ _ _ _ _) (OwnS.nil _ _) hhi
set_option maxRecDepth 4000 in
set_option maxHeartbeats 2000000 in
theorem ask12 {w : World} {lo hi g : Nat} {r : Rd} (h : ProgRd w lo hi g r) (a b c d : Int) (hk : pickN b 13 = 12) : Calls Try.prog 14 #[.pointer (some ⟨g, 0, none⟩), stepV a b c d] w fun x w' => ProgRdPost w lo hi g (askM 12 c d r) x w' := by
  have hP := fun W => pick_any b 13 W (by omega) (by omega)
  rw [hk] at hP
  have HP := hid hP
  have hb1 := below_new w (.cells #[.int .i64 a, .int .i64 b, .int .i64 c, .int .i64 d] tStep)
  have hb2 : Below w.heap.size w ((w.alloc (.cells #[.int .i64 a, .int .i64 b, .int .i64 c, .int .i64 d] tStep)).alloc (.cells #[.int .u64 0, .slice none 0 0, .slice none 0 0] tTold)) := hb1.alloc hb1.size _
  have HC := hid (pEnd (h.later hb2))
  have HB := hid hb2
  have HR := hid (ask_row w (.cells #[.int .i64 a, .int .i64 b, .int .i64 c, .int .i64 d] tStep))
  have HZ : Hid (((w.alloc (.cells #[.int .i64 a, .int .i64 b, .int .i64 c, .int .i64 d] tStep)).alloc (.cells #[.int .u64 0, .slice none 0 0, .slice none 0 0] tTold)).heap.size = w.heap.size + 2) := by show _ = _; simp
  have hgl := Nat.lt_of_lt_of_le h.ghi h.top
  have hhi := h.top
  have hlt := h.low
  have HL := hid (h.later hb2)
  clear h hP hb1 hb2
  show Calls _ _ _ _ fun x w' => ProgRdPost w lo hi g (⟨endM r, [], []⟩, r) x w'
  rw [← endM_int] at HC
  have hlt2 : endM r < 1000 := by unfold endM; split <;> omega
  generalize endM r = n at *
  go_enter Try.func14, Try.ntmps14
  go_wp2_with (go_at_call 12; refine (HP.out _).mono ?_; rintro e w2 ⟨rfl, hw2⟩; subst w2)
  refine HC.out.mono ?_
  rintro e w3 ⟨rfl, hw3⟩
  have h3 : ProgRd w3 lo hi g r := by rw [hw3]; exact HL.out
  have h4 : Hit g ((w.alloc (.cells #[.int .i64 a, .int .i64 b, .int .i64 c, .int .i64 d] tStep)).alloc (.cells #[.int .u64 0, .slice none 0 0, .slice none 0 0] tTold)) w3 := by rw [hw3]; exact Hit.refl _ _
  clear hw3
  have hr3 := (h4.block (w.heap.size + 1) (by simp) (by omega)).trans HR.out
  obtain ⟨k0, k1, k2, f0, f1, f2⟩ := told_cells hr3
  have H3 := hid h3
  have H4 := hid h4
  have HR3 := hid hr3
  clear HC HR h3 h4 hr3
  go_wp2_with fail
  refine bodyPost_ret (results_cell_row rfl _ _ (w.heap.size + 1) tTold _ (0, 0) _ rfl (told_row HR3.out _ _ _) Try.underlying39 rfl (by kernel_rfl)) rfl ?_
  exact ProgRdPost.fin HB.out HZ.out H4.out H3.out hgl (by first | rfl | exact u64_nat _ (by omega)) (Own.nil _ _ _ _ _) (OwnS.nil _ _) hhi
theorem ask_any {w : World} {lo hi g : Nat} {r : Rd} (h : ProgRd w lo hi g r) (a b c d : Int) (hc : -9223372036854775808 ≤ c ∧ c ≤ 9223372036854775807) (hd : -9223372036854775808 ≤ d ∧ d ≤ 9223372036854775807) (hsm : r.l.length ≤ 1099511627776) : Calls Try.prog 14 #[.pointer (some ⟨g, 0, none⟩), stepV a b c d] w fun x w' => ProgRdPost w lo hi g (askM (pickN b 13) c d r) x w' := by
  have hk := pickN_lt b (n := 13) (by omega)
  generalize hp : pickN b 13 = k at hk ⊢
  match k, hk with
  | 0, _ => exact ask0 h a b c d hp
  | 1, _ => exact ask1 h a b c d hp
  | 2, _ => exact ask2 h a b c d hp
  | 3, _ => exact ask3 h a b c d hp
  | 4, _ => exact ask4 h a b c d hp
  | 5, _ => exact ask5 h a b c d hp
  | 6, _ => exact ask6 h a b c d hp
  | 7, _ => exact ask7 h a b c d hc hp
  | 8, _ => exact ask8 h a b c d hc hp
  | 9, _ => exact ask9 h a b c d hc hd hsm hp
  | 10, _ => exact ask10 h a b c d hp
  | 11, _ => exact ask11 h a b c d hp
  | 12, _ => exact ask12 h a b c d hp
end Go.Proofs.Ytefjhiodeaohcaa
