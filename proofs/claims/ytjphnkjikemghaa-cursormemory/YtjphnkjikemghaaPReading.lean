/-
  The face of every reading.
-/
import Derived.Test.YtjphnkjikemghaaPCatch
namespace Go.Proofs.Ytjphnkjikemghaa
open Go.RowKit Cu

theorem mkf (fn : Fn) (first cap : Array Value) (w : World) : (Instr.makeFunc fn first cap).run Try.prog w = .ok (.func fn first cap) w := rfl
/-- What a reading begins with: a copy of what is left, in a new block. -/
theorem rest_new {w : World} {lo hi g : Nat} {r : Rd} (h : ProgRd w lo hi g r) {a : Option Addr} {c : Nat} {o : Obj} (hsl : Sl (w.alloc o) lo hi g a c r.rest) :
    ∃ lo' hi', RestAt ((w.alloc o).alloc (.cells #[.slice a r.rest.length c] tRest)) lo' hi' (w.heap.size + 1) r.rest ∧ Hid (∀ b, lo' ≤ b → b < hi' → lo ≤ b ∧ b < hi ∧ b ≠ g) := by
  have hrow : ((w.alloc o).alloc (.cells #[.slice a r.rest.length c] tRest)).heap[w.heap.size + 1]? = some (.cells #[.slice a r.rest.length c] tRest (0, 0)) := by
    have := heap_alloc_new (w.alloc o) (.cells #[.slice a r.rest.length c] tRest)
    rwa [show (w.alloc o).heap.size = w.heap.size + 1 by simp] at this
  have hlt : ∀ c ∈ r.rest, c < 256 := h.ok.rest
  have hlen : r.rest.length + 20 ≤ 140737488355328 := by have := h.len; have := rest_short (r := r); omega
  have hb2 := below_new (w.alloc o) (.cells #[.slice a r.rest.length c] tRest)
  have hz : ((w.alloc o).alloc (.cells #[.slice a r.rest.length c] tRest)).heap.size = w.heap.size + 2 := by simp
  cases a with
  | none =>
    refine ⟨0, 0, ⟨⟨none, c, hrow, hsl.bytes.later hb2, hsl.nil, hsl.le, hsl.top, fun x hx => by cases hx⟩, hlt, hlen, Nat.zero_le _⟩, fun b _ hb => by omega⟩
  | some x =>
    obtain ⟨h1, h2, h3, h4⟩ := hsl.off x rfl
    have ht := h.top
    refine ⟨x.block, x.block + 1, ⟨⟨some x, c, hrow, hsl.bytes.later hb2, hsl.nil, hsl.le, hsl.top, fun y hy => by cases hy; exact ⟨Nat.le_refl _, Nat.lt_succ_self _, by omega, h4⟩⟩, hlt, hlen, by omega⟩, fun b hb1 hb2 => ?_⟩
    have hbx : b = x.block := by omega
    subst hbx
    exact ⟨h1, h2, h3⟩
theorem prog_setE {w : World} {lo hi g : Nat} {r : Rd} (h : ProgRd w lo hi g r) {m : Nat} (hm : m < 1000) : ProgRd (w.setCell ⟨g, 1, none⟩ (.int .i64 (m : Int))) lo hi g ⟨r.l, r.at', m⟩ := by
  obtain ⟨a, c, h1, h2⟩ := h.row
  have hz := hit_set (g := g) w ⟨g, 1, none⟩ (.int .i64 (m : Int)) rfl
  refine ⟨h.glo, h.ghi, Nat.le_trans h.top hz.size, ⟨a, c, ?_, ?_⟩, h.ok, h.len, hm⟩
  · rw [heap_set_row h1]; rfl
  · exact h2.stay (fun j _ hj hq => hz.block j (Nat.lt_of_lt_of_le hj h.top) hq) hz.size
theorem prog_set {w : World} {lo hi g : Nat} {r r' : Rd} (h : ProgRd w lo hi g r) {a : Option Addr} {c : Nat} (hs : Sl w lo hi g a c r'.rest) (hok : r'.Ok) (hl : r'.l = r.l) (he : r'.e = r.e) : ProgRd (w.setCell ⟨g, 0, none⟩ (.slice a r'.rest.length c)) lo hi g r' := by
  obtain ⟨a0, c0, h1, h2⟩ := h.row
  have hz := hit_set (g := g) w ⟨g, 0, none⟩ (.slice a r'.rest.length c) rfl
  refine ⟨h.glo, h.ghi, Nat.le_trans h.top hz.size, ⟨a, c, ?_, ?_⟩, hok, by rw [hl]; exact h.len, by rw [he]; exact h.low⟩
  · rw [heap_set_row h1, he]; rfl
  · exact hs.stay (fun j _ hj hq => hz.block j (Nat.lt_of_lt_of_le hj h.top) hq) hz.size
theorem hit_read {w W w3 w4 : World} {g : Nat} (hb : Below w.heap.size w W) (hz : W.heap.size = w.heap.size + 2) (h3 : Hit (w.heap.size + 1) W w3) (h4 : Hit g w3 w4) : Hit g w w4 :=
  ⟨h4.os.trans (h3.os.trans hb.os), h4.tape.trans (h3.tape.trans hb.tape), h4.output.trans (h3.output.trans hb.output), Nat.le_trans hb.size (Nat.le_trans h3.size h4.size), fun j hj hg => by
    rw [h4.block j (by have := h3.size; omega) hg, h3.block j (by omega) (by omega), hb.block j hj]⟩
set_option maxRecDepth 4000 in
set_option maxHeartbeats 2000000 in
theorem reading_uint64 {w : World} {lo hi g : Nat} {r : Rd} (h : ProgRd w lo hi g r) (h0 : r.e = 0) (F : FuncId) (hF : ∀ args W, (callFunc F args).run Try.prog W = .ok (.enter F args) W) (r' : Rd) (P : Value → World → Prop)
    (hs : ∀ (W : World) (lo' hi' q : Nat), RestAt W lo' hi' q r.rest → w.heap.size ≤ q → Below w.heap.size w W → Calls Try.prog F #[.pointer (some ⟨q, 0, none⟩)] W fun x w' => Stp W lo' hi' q r' (fun x w' => ∃ v, x = .returned v ∧ P v w') x w')
    (hP : ∀ v w1 w2, Hit g w1 w2 → P v w1 → P v w2) (hno : r'.e ≠ 0 → r' = r.no r'.e) (hok : r'.e = 0 → r'.Ok ∧ r'.l = r.l) (hlow : r'.e < 1000) :
    Calls Try.prog 37 #[.pointer (some ⟨g, 0, none⟩), .func (.func F) #[] #[]] w fun x w' => ∃ v, x = .returned v ∧ ((r'.e ≠ 0 ∧ v = .int .u64 0) ∨ (r'.e = 0 ∧ P v w')) ∧ ProgRd w' lo hi g r' ∧ Hit g w w' := by
  have hm := mkf
  have hb1 := below_new w (.cells #[.pointer (some ⟨g, 0, none⟩)] 35)
  have HF := hid (pFault (h.later hb1))
  obtain ⟨a, c, c0, c1, f0, f1, HSl⟩ := (h.later hb1).cells
  have he' : (r.e : Int) = 0 := by omega
  rw [he'] at HF
  have HH := hid h
  clear h hb1 c1
  go_enter_defers Try.func37, Try.ntmps37
  go_wp2_with (go_at_call 23; refine HF.out.mono ?_; rintro e w2 ⟨rfl, hw2⟩; subst w2)
  have HW := hid (rest_new HH.out HSl.out)
  obtain ⟨lo', hi', HW1, HW2⟩ := HW.out
  have hb2 : Below w.heap.size w ((w.alloc (Obj.cells #[Value.pointer (some ⟨g, 0, none⟩)] 35)).alloc (Obj.cells #[Value.slice a r.rest.length c] tRest)) := by
    have h1 := below_new w (.cells #[.pointer (some ⟨g, 0, none⟩)] 35)
    exact h1.alloc h1.size _
  refine (hs _ lo' hi' (w.heap.size + 1) HW1 (by omega) hb2).mono ?_
  have HPW := hid (HH.out.later hb2)
  have hrow0 : ((w.alloc (Obj.cells #[Value.pointer (some ⟨g, 0, none⟩)] 35)).alloc (Obj.cells #[Value.slice a r.rest.length c] tRest)).heap[w.heap.size]? = some (.cells #[Value.pointer (some ⟨g, 0, none⟩)] 35 (0, 0)) := by
    rw [Below.heap_alloc _ _ _ (by simp)]
    exact heap_alloc_new w _
  have hz2 : ((w.alloc (Obj.cells #[Value.pointer (some ⟨g, 0, none⟩)] 35)).alloc (Obj.cells #[Value.slice a r.rest.length c] tRest)).heap.size = w.heap.size + 2 := by simp
  have HB2 := hid hb2
  have HR0 := hid hrow0
  have HZ2 := hid hz2
  have htop := HH.out.top
  have hgl := HH.out.ghi
  clear HF c0 f0 f1 HSl hb2 hrow0 hz2 HW HW1 hs
  generalize (w.alloc (Obj.cells #[Value.pointer (some ⟨g, 0, none⟩)] 35)).alloc (Obj.cells #[Value.slice a r.rest.length c] tRest) = W at *
  rintro e w3 ⟨ht, ⟨hne, rfl⟩ | ⟨he0, hr3, v3, rfl, hv3⟩⟩
  · have hp3 : ProgRd w3 lo hi g r := HPW.out.stay (fun j _ hj => ht.block j (by rw [HZ2.out]; omega) (by omega)) ht.size
    have hbx : w3.heap[w.heap.size]? = some (.cells #[Value.pointer (some ⟨g, 0, none⟩)] 35 (0, 0)) := (ht.block _ (by rw [HZ2.out]; omega) (by omega)).trans HR0.out
    obtain ⟨_, _, _, k1, _, k3, _⟩ := hp3.cells
    refine leaves_cons (f := 53) (args := #[.pointer (some ⟨w.heap.size, 0, none⟩)]) (by simp) (by simp [go_sem]) ?_
    refine (catch_panic_uint64 w.heap.size g r'.e _ w3 (by rw [cell_of_row _ _ _ _ _ _ hbx]; rfl) k1 k3).mono ?_
    rintro e u' w4 ⟨rfl, rfl, j, rfl⟩
    have hset := prog_setE hp3 hlow
    have hre : r' = ⟨r.l, r.at', r'.e⟩ := hno hne
    refine ⟨_, results_tmp rfl _ _ _, _, rfl, .inl ⟨hne, rfl⟩, ?_, ?_⟩
    · rw [hre]; exact hset.drewN j
    · exact hit_read HB2.out HZ2.out ht ((hit_set (g := g) w3 ⟨g, 1, none⟩ _ rfl).trans (hit_drewN _ j))
  · have hp3 : ProgRd w3 lo hi g r := HPW.out.stay (fun j _ hj => ht.block j (by rw [HZ2.out]; omega) (by omega)) ht.size
    have hbx : w3.heap[w.heap.size]? = some (.cells #[Value.pointer (some ⟨g, 0, none⟩)] 35 (0, 0)) := (ht.block _ (by rw [HZ2.out]; omega) (by omega)).trans HR0.out
    have kb : w3.cell? ⟨w.heap.size, 0, none⟩ = some (.pointer (some ⟨g, 0, none⟩)) := by rw [cell_of_row _ _ _ _ _ _ hbx]; rfl
    obtain ⟨_, _, k0, _, k2, _, _⟩ := hp3.cells
    obtain ⟨a3, c3, hq3, hsl3⟩ := hr3.row
    have kq : w3.cell? ⟨w.heap.size + 1, 0, none⟩ = some (.slice a3 r'.rest.length c3) := by rw [cell_of_row _ _ _ _ _ _ hq3]; rfl
    obtain ⟨ho1, ho2⟩ := hok he0
    have HSet := hid (prog_set hp3 (a := a3) (c := c3) (r' := r') ⟨hsl3.bytes, hsl3.nil, hsl3.le, hsl3.top, fun x hx => by obtain ⟨z1, z2, z3, z4⟩ := hsl3.off x hx; obtain ⟨y1, y2, y3⟩ := HW2.out x.block z1 z2; exact ⟨y1, y2, y3, z4⟩⟩ ho1 ho2 (he0.trans h0.symm))
    have HHit := hid (hit_read HB2.out HZ2.out ht (hit_set (g := g) w3 ⟨g, 0, none⟩ (.slice a3 r'.rest.length c3) rfl))
    have HV := hid hv3
    have HP := hid hP
    clear hp3 hbx hq3 hsl3 hr3 ht hv3 hP HPW HR0 HZ2 HB2 hno hok
    go_wp2_with fail
    refine leaves_cons (f := 53) (args := #[.pointer (some ⟨w.heap.size, 0, none⟩)]) (by simp) (by simp [go_sem]) ?_
    refine (catch_idle_uint64 ⟨w.heap.size, 0, none⟩ _).mono ?_
    rintro e u' w4 ⟨rfl, rfl, rfl⟩
    refine ⟨_, results_tmp rfl _ _ _, _, rfl, .inr ⟨he0, ?_⟩, HSet.out, HHit.out⟩
    exact HP.out _ _ _ (hit_set _ _ _ rfl) HV.out
set_option maxRecDepth 4000 in
set_option maxHeartbeats 2000000 in
theorem reading_bad_uint64 {w : World} {lo hi g : Nat} {r : Rd} (h : ProgRd w lo hi g r) (h0 : r.e ≠ 0) (F : FuncId) :
    Calls Try.prog 37 #[.pointer (some ⟨g, 0, none⟩), .func (.func F) #[] #[]] w fun x w' => x = .returned (.int .u64 0) ∧ Below w.heap.size w w' := by
  have hb1 := below_new w (.cells #[.pointer (some ⟨g, 0, none⟩)] 35)
  have HF := hid (pFault (h.later hb1))
  have HB := hid hb1
  have hd : decide ((r.e : Int) = 0) = false := by simp; omega
  have hd2 : ¬ (r.e : Int) = 0 := by omega
  clear h hb1
  generalize r.e = e at *
  go_enter_defers Try.func37, Try.ntmps37
  go_wp2_with (go_at_call 23; refine HF.out.mono ?_; rintro e w2 ⟨rfl, hw2⟩; subst w2)
  exact ⟨_, results_tmp rfl _ _ _, rfl, HB.out⟩
set_option maxRecDepth 4000 in
set_option maxHeartbeats 2000000 in
theorem reading_nil_uint64 (w : World) (F : FuncId) :
    Calls Try.prog 37 #[.pointer none, .func (.func F) #[] #[]] w fun x w' => x = .returned (.int .u64 0) ∧ Below w.heap.size w w' := by
  have hb1 := below_new w (.cells #[.pointer none] 35)
  have HB := hid hb1
  clear hb1
  go_enter_defers Try.func37, Try.ntmps37
  go_wp2_with (go_at_call 23; refine (pFault_nil _).mono ?_; rintro e w2 ⟨rfl, hw2⟩; subst w2)
  exact ⟨_, results_tmp rfl _ _ _, rfl, HB.out⟩
set_option maxRecDepth 4000 in
set_option maxHeartbeats 2000000 in
theorem reading_bytes {w : World} {lo hi g : Nat} {r : Rd} (h : ProgRd w lo hi g r) (h0 : r.e = 0) (F : FuncId) (c1 : Value) (hF : ∀ args W, (callFunc F args).run Try.prog W = .ok (.enter F args) W) (r' : Rd) (P : Value → World → Prop)
    (hs : ∀ (W : World) (lo' hi' q : Nat), RestAt W lo' hi' q r.rest → w.heap.size ≤ q → Below w.heap.size w W → Calls Try.prog F #[.pointer (some ⟨q, 0, none⟩), c1] W fun x w' => Stp W lo' hi' q r' (fun x w' => ∃ v, x = .returned v ∧ P v w') x w')
    (hP : ∀ v w1 w2, Hit g w1 w2 → P v w1 → P v w2) (hno : r'.e ≠ 0 → r' = r.no r'.e) (hok : r'.e = 0 → r'.Ok ∧ r'.l = r.l) (hlow : r'.e < 1000) :
    Calls Try.prog 33 #[.pointer (some ⟨g, 0, none⟩), .func (.func F) #[] #[c1]] w fun x w' => ∃ v, x = .returned v ∧ ((r'.e ≠ 0 ∧ v = .slice none 0 0) ∨ (r'.e = 0 ∧ P v w')) ∧ ProgRd w' lo hi g r' ∧ Hit g w w' := by
  have hm := mkf
  have hb1 := below_new w (.cells #[.pointer (some ⟨g, 0, none⟩)] 35)
  have HF := hid (pFault (h.later hb1))
  obtain ⟨a, c, c0, c1, f0, f1, HSl⟩ := (h.later hb1).cells
  have he' : (r.e : Int) = 0 := by omega
  rw [he'] at HF
  have HH := hid h
  clear h hb1 c1
  go_enter_defers Try.func33, Try.ntmps33
  go_wp2_with (go_at_call 23; refine HF.out.mono ?_; rintro e w2 ⟨rfl, hw2⟩; subst w2)
  have HW := hid (rest_new HH.out HSl.out)
  obtain ⟨lo', hi', HW1, HW2⟩ := HW.out
  have hb2 : Below w.heap.size w ((w.alloc (Obj.cells #[Value.pointer (some ⟨g, 0, none⟩)] 35)).alloc (Obj.cells #[Value.slice a r.rest.length c] tRest)) := by
    have h1 := below_new w (.cells #[.pointer (some ⟨g, 0, none⟩)] 35)
    exact h1.alloc h1.size _
  refine (hs _ lo' hi' (w.heap.size + 1) HW1 (by omega) hb2).mono ?_
  have HPW := hid (HH.out.later hb2)
  have hrow0 : ((w.alloc (Obj.cells #[Value.pointer (some ⟨g, 0, none⟩)] 35)).alloc (Obj.cells #[Value.slice a r.rest.length c] tRest)).heap[w.heap.size]? = some (.cells #[Value.pointer (some ⟨g, 0, none⟩)] 35 (0, 0)) := by
    rw [Below.heap_alloc _ _ _ (by simp)]
    exact heap_alloc_new w _
  have hz2 : ((w.alloc (Obj.cells #[Value.pointer (some ⟨g, 0, none⟩)] 35)).alloc (Obj.cells #[Value.slice a r.rest.length c] tRest)).heap.size = w.heap.size + 2 := by simp
  have HB2 := hid hb2
  have HR0 := hid hrow0
  have HZ2 := hid hz2
  have htop := HH.out.top
  have hgl := HH.out.ghi
  clear HF c0 f0 f1 HSl hb2 hrow0 hz2 HW HW1 hs
  generalize (w.alloc (Obj.cells #[Value.pointer (some ⟨g, 0, none⟩)] 35)).alloc (Obj.cells #[Value.slice a r.rest.length c] tRest) = W at *
  rintro e w3 ⟨ht, ⟨hne, rfl⟩ | ⟨he0, hr3, v3, rfl, hv3⟩⟩
  · have hp3 : ProgRd w3 lo hi g r := HPW.out.stay (fun j _ hj => ht.block j (by rw [HZ2.out]; omega) (by omega)) ht.size
    have hbx : w3.heap[w.heap.size]? = some (.cells #[Value.pointer (some ⟨g, 0, none⟩)] 35 (0, 0)) := (ht.block _ (by rw [HZ2.out]; omega) (by omega)).trans HR0.out
    obtain ⟨_, _, _, k1, _, k3, _⟩ := hp3.cells
    refine leaves_cons (f := 51) (args := #[.pointer (some ⟨w.heap.size, 0, none⟩)]) (by simp) (by simp [go_sem]) ?_
    refine (catch_panic_bytes w.heap.size g r'.e _ w3 (by rw [cell_of_row _ _ _ _ _ _ hbx]; rfl) k1 k3).mono ?_
    rintro e u' w4 ⟨rfl, rfl, j, rfl⟩
    have hset := prog_setE hp3 hlow
    have hre : r' = ⟨r.l, r.at', r'.e⟩ := hno hne
    refine ⟨_, results_tmp rfl _ _ _, _, rfl, .inl ⟨hne, rfl⟩, ?_, ?_⟩
    · rw [hre]; exact hset.drewN j
    · exact hit_read HB2.out HZ2.out ht ((hit_set (g := g) w3 ⟨g, 1, none⟩ _ rfl).trans (hit_drewN _ j))
  · have hp3 : ProgRd w3 lo hi g r := HPW.out.stay (fun j _ hj => ht.block j (by rw [HZ2.out]; omega) (by omega)) ht.size
    have hbx : w3.heap[w.heap.size]? = some (.cells #[Value.pointer (some ⟨g, 0, none⟩)] 35 (0, 0)) := (ht.block _ (by rw [HZ2.out]; omega) (by omega)).trans HR0.out
    have kb : w3.cell? ⟨w.heap.size, 0, none⟩ = some (.pointer (some ⟨g, 0, none⟩)) := by rw [cell_of_row _ _ _ _ _ _ hbx]; rfl
    obtain ⟨_, _, k0, _, k2, _, _⟩ := hp3.cells
    obtain ⟨a3, c3, hq3, hsl3⟩ := hr3.row
    have kq : w3.cell? ⟨w.heap.size + 1, 0, none⟩ = some (.slice a3 r'.rest.length c3) := by rw [cell_of_row _ _ _ _ _ _ hq3]; rfl
    obtain ⟨ho1, ho2⟩ := hok he0
    have HSet := hid (prog_set hp3 (a := a3) (c := c3) (r' := r') ⟨hsl3.bytes, hsl3.nil, hsl3.le, hsl3.top, fun x hx => by obtain ⟨z1, z2, z3, z4⟩ := hsl3.off x hx; obtain ⟨y1, y2, y3⟩ := HW2.out x.block z1 z2; exact ⟨y1, y2, y3, z4⟩⟩ ho1 ho2 (he0.trans h0.symm))
    have HHit := hid (hit_read HB2.out HZ2.out ht (hit_set (g := g) w3 ⟨g, 0, none⟩ (.slice a3 r'.rest.length c3) rfl))
    have HV := hid hv3
    have HP := hid hP
    clear hp3 hbx hq3 hsl3 hr3 ht hv3 hP HPW HR0 HZ2 HB2 hno hok
    go_wp2_with fail
    refine leaves_cons (f := 51) (args := #[.pointer (some ⟨w.heap.size, 0, none⟩)]) (by simp) (by simp [go_sem]) ?_
    refine (catch_idle_bytes ⟨w.heap.size, 0, none⟩ _).mono ?_
    rintro e u' w4 ⟨rfl, rfl, rfl⟩
    refine ⟨_, results_tmp rfl _ _ _, _, rfl, .inr ⟨he0, ?_⟩, HSet.out, HHit.out⟩
    exact HP.out _ _ _ (hit_set _ _ _ rfl) HV.out
set_option maxRecDepth 4000 in
set_option maxHeartbeats 2000000 in
theorem reading_bad_bytes {w : World} {lo hi g : Nat} {r : Rd} (h : ProgRd w lo hi g r) (h0 : r.e ≠ 0) (F : FuncId) (c1 : Value) :
    Calls Try.prog 33 #[.pointer (some ⟨g, 0, none⟩), .func (.func F) #[] #[c1]] w fun x w' => x = .returned (.slice none 0 0) ∧ Below w.heap.size w w' := by
  have hb1 := below_new w (.cells #[.pointer (some ⟨g, 0, none⟩)] 35)
  have HF := hid (pFault (h.later hb1))
  have HB := hid hb1
  have hd : decide ((r.e : Int) = 0) = false := by simp; omega
  have hd2 : ¬ (r.e : Int) = 0 := by omega
  clear h hb1
  generalize r.e = e at *
  go_enter_defers Try.func33, Try.ntmps33
  go_wp2_with (go_at_call 23; refine HF.out.mono ?_; rintro e w2 ⟨rfl, hw2⟩; subst w2)
  exact ⟨_, results_tmp rfl _ _ _, rfl, HB.out⟩
set_option maxRecDepth 4000 in
set_option maxHeartbeats 2000000 in
theorem reading_nil_bytes (w : World) (F : FuncId) (c1 : Value) :
    Calls Try.prog 33 #[.pointer none, .func (.func F) #[] #[c1]] w fun x w' => x = .returned (.slice none 0 0) ∧ Below w.heap.size w w' := by
  have hb1 := below_new w (.cells #[.pointer none] 35)
  have HB := hid hb1
  clear hb1
  go_enter_defers Try.func33, Try.ntmps33
  go_wp2_with (go_at_call 23; refine (pFault_nil _).mono ?_; rintro e w2 ⟨rfl, hw2⟩; subst w2)
  exact ⟨_, results_tmp rfl _ _ _, rfl, HB.out⟩
set_option maxRecDepth 4000 in
set_option maxHeartbeats 2000000 in
theorem reading_strings {w : World} {lo hi g : Nat} {r : Rd} (h : ProgRd w lo hi g r) (h0 : r.e = 0) (F : FuncId) (c1 c2 : Value) (hF : ∀ args W, (callFunc F args).run Try.prog W = .ok (.enter F args) W) (r' : Rd) (P : Value → World → Prop)
    (hs : ∀ (W : World) (lo' hi' q : Nat), RestAt W lo' hi' q r.rest → w.heap.size ≤ q → Below w.heap.size w W → Calls Try.prog F #[.pointer (some ⟨q, 0, none⟩), c1, c2] W fun x w' => Stp W lo' hi' q r' (fun x w' => ∃ v, x = .returned v ∧ P v w') x w')
    (hP : ∀ v w1 w2, Hit g w1 w2 → P v w1 → P v w2) (hno : r'.e ≠ 0 → r' = r.no r'.e) (hok : r'.e = 0 → r'.Ok ∧ r'.l = r.l) (hlow : r'.e < 1000) :
    Calls Try.prog 41 #[.pointer (some ⟨g, 0, none⟩), .func (.func F) #[] #[c1, c2]] w fun x w' => ∃ v, x = .returned v ∧ ((r'.e ≠ 0 ∧ v = .slice none 0 0) ∨ (r'.e = 0 ∧ P v w')) ∧ ProgRd w' lo hi g r' ∧ Hit g w w' := by
  have hm := mkf
  have hb1 := below_new w (.cells #[.pointer (some ⟨g, 0, none⟩)] 35)
  have HF := hid (pFault (h.later hb1))
  obtain ⟨a, c, c0, c1, f0, f1, HSl⟩ := (h.later hb1).cells
  have he' : (r.e : Int) = 0 := by omega
  rw [he'] at HF
  have HH := hid h
  clear h hb1 c1
  go_enter_defers Try.func41, Try.ntmps41
  go_wp2_with (go_at_call 23; refine HF.out.mono ?_; rintro e w2 ⟨rfl, hw2⟩; subst w2)
  have HW := hid (rest_new HH.out HSl.out)
  obtain ⟨lo', hi', HW1, HW2⟩ := HW.out
  have hb2 : Below w.heap.size w ((w.alloc (Obj.cells #[Value.pointer (some ⟨g, 0, none⟩)] 35)).alloc (Obj.cells #[Value.slice a r.rest.length c] tRest)) := by
    have h1 := below_new w (.cells #[.pointer (some ⟨g, 0, none⟩)] 35)
    exact h1.alloc h1.size _
  refine (hs _ lo' hi' (w.heap.size + 1) HW1 (by omega) hb2).mono ?_
  have HPW := hid (HH.out.later hb2)
  have hrow0 : ((w.alloc (Obj.cells #[Value.pointer (some ⟨g, 0, none⟩)] 35)).alloc (Obj.cells #[Value.slice a r.rest.length c] tRest)).heap[w.heap.size]? = some (.cells #[Value.pointer (some ⟨g, 0, none⟩)] 35 (0, 0)) := by
    rw [Below.heap_alloc _ _ _ (by simp)]
    exact heap_alloc_new w _
  have hz2 : ((w.alloc (Obj.cells #[Value.pointer (some ⟨g, 0, none⟩)] 35)).alloc (Obj.cells #[Value.slice a r.rest.length c] tRest)).heap.size = w.heap.size + 2 := by simp
  have HB2 := hid hb2
  have HR0 := hid hrow0
  have HZ2 := hid hz2
  have htop := HH.out.top
  have hgl := HH.out.ghi
  clear HF c0 f0 f1 HSl hb2 hrow0 hz2 HW HW1 hs
  generalize (w.alloc (Obj.cells #[Value.pointer (some ⟨g, 0, none⟩)] 35)).alloc (Obj.cells #[Value.slice a r.rest.length c] tRest) = W at *
  rintro e w3 ⟨ht, ⟨hne, rfl⟩ | ⟨he0, hr3, v3, rfl, hv3⟩⟩
  · have hp3 : ProgRd w3 lo hi g r := HPW.out.stay (fun j _ hj => ht.block j (by rw [HZ2.out]; omega) (by omega)) ht.size
    have hbx : w3.heap[w.heap.size]? = some (.cells #[Value.pointer (some ⟨g, 0, none⟩)] 35 (0, 0)) := (ht.block _ (by rw [HZ2.out]; omega) (by omega)).trans HR0.out
    obtain ⟨_, _, _, k1, _, k3, _⟩ := hp3.cells
    refine leaves_cons (f := 54) (args := #[.pointer (some ⟨w.heap.size, 0, none⟩)]) (by simp) (by simp [go_sem]) ?_
    refine (catch_panic_strings w.heap.size g r'.e _ w3 (by rw [cell_of_row _ _ _ _ _ _ hbx]; rfl) k1 k3).mono ?_
    rintro e u' w4 ⟨rfl, rfl, j, rfl⟩
    have hset := prog_setE hp3 hlow
    have hre : r' = ⟨r.l, r.at', r'.e⟩ := hno hne
    refine ⟨_, results_tmp rfl _ _ _, _, rfl, .inl ⟨hne, rfl⟩, ?_, ?_⟩
    · rw [hre]; exact hset.drewN j
    · exact hit_read HB2.out HZ2.out ht ((hit_set (g := g) w3 ⟨g, 1, none⟩ _ rfl).trans (hit_drewN _ j))
  · have hp3 : ProgRd w3 lo hi g r := HPW.out.stay (fun j _ hj => ht.block j (by rw [HZ2.out]; omega) (by omega)) ht.size
    have hbx : w3.heap[w.heap.size]? = some (.cells #[Value.pointer (some ⟨g, 0, none⟩)] 35 (0, 0)) := (ht.block _ (by rw [HZ2.out]; omega) (by omega)).trans HR0.out
    have kb : w3.cell? ⟨w.heap.size, 0, none⟩ = some (.pointer (some ⟨g, 0, none⟩)) := by rw [cell_of_row _ _ _ _ _ _ hbx]; rfl
    obtain ⟨_, _, k0, _, k2, _, _⟩ := hp3.cells
    obtain ⟨a3, c3, hq3, hsl3⟩ := hr3.row
    have kq : w3.cell? ⟨w.heap.size + 1, 0, none⟩ = some (.slice a3 r'.rest.length c3) := by rw [cell_of_row _ _ _ _ _ _ hq3]; rfl
    obtain ⟨ho1, ho2⟩ := hok he0
    have HSet := hid (prog_set hp3 (a := a3) (c := c3) (r' := r') ⟨hsl3.bytes, hsl3.nil, hsl3.le, hsl3.top, fun x hx => by obtain ⟨z1, z2, z3, z4⟩ := hsl3.off x hx; obtain ⟨y1, y2, y3⟩ := HW2.out x.block z1 z2; exact ⟨y1, y2, y3, z4⟩⟩ ho1 ho2 (he0.trans h0.symm))
    have HHit := hid (hit_read HB2.out HZ2.out ht (hit_set (g := g) w3 ⟨g, 0, none⟩ (.slice a3 r'.rest.length c3) rfl))
    have HV := hid hv3
    have HP := hid hP
    clear hp3 hbx hq3 hsl3 hr3 ht hv3 hP HPW HR0 HZ2 HB2 hno hok
    go_wp2_with fail
    refine leaves_cons (f := 54) (args := #[.pointer (some ⟨w.heap.size, 0, none⟩)]) (by simp) (by simp [go_sem]) ?_
    refine (catch_idle_strings ⟨w.heap.size, 0, none⟩ _).mono ?_
    rintro e u' w4 ⟨rfl, rfl, rfl⟩
    refine ⟨_, results_tmp rfl _ _ _, _, rfl, .inr ⟨he0, ?_⟩, HSet.out, HHit.out⟩
    exact HP.out _ _ _ (hit_set _ _ _ rfl) HV.out
set_option maxRecDepth 4000 in
set_option maxHeartbeats 2000000 in
theorem reading_bad_strings {w : World} {lo hi g : Nat} {r : Rd} (h : ProgRd w lo hi g r) (h0 : r.e ≠ 0) (F : FuncId) (c1 c2 : Value) :
    Calls Try.prog 41 #[.pointer (some ⟨g, 0, none⟩), .func (.func F) #[] #[c1, c2]] w fun x w' => x = .returned (.slice none 0 0) ∧ Below w.heap.size w w' := by
  have hb1 := below_new w (.cells #[.pointer (some ⟨g, 0, none⟩)] 35)
  have HF := hid (pFault (h.later hb1))
  have HB := hid hb1
  have hd : decide ((r.e : Int) = 0) = false := by simp; omega
  have hd2 : ¬ (r.e : Int) = 0 := by omega
  clear h hb1
  generalize r.e = e at *
  go_enter_defers Try.func41, Try.ntmps41
  go_wp2_with (go_at_call 23; refine HF.out.mono ?_; rintro e w2 ⟨rfl, hw2⟩; subst w2)
  exact ⟨_, results_tmp rfl _ _ _, rfl, HB.out⟩
set_option maxRecDepth 4000 in
set_option maxHeartbeats 2000000 in
theorem reading_nil_strings (w : World) (F : FuncId) (c1 c2 : Value) :
    Calls Try.prog 41 #[.pointer none, .func (.func F) #[] #[c1, c2]] w fun x w' => x = .returned (.slice none 0 0) ∧ Below w.heap.size w w' := by
  have hb1 := below_new w (.cells #[.pointer none] 35)
  have HB := hid hb1
  clear hb1
  go_enter_defers Try.func41, Try.ntmps41
  go_wp2_with (go_at_call 23; refine (pFault_nil _).mono ?_; rintro e w2 ⟨rfl, hw2⟩; subst w2)
  exact ⟨_, results_tmp rfl _ _ _, rfl, HB.out⟩
end Go.Proofs.Ytjphnkjikemghaa
