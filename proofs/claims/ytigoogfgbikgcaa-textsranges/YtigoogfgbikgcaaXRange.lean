/-
  The closure of texts.Range, sort.Search with it, texts.Range of any texts.
-/
import Derived.Test.YtigoogfgbikgcaaXTx
namespace Go.Proofs.Ytigoogfgbikgcaa.Tx
open Go.ChangeShapes Go.WideShapes Go.ChangeAt Go.RowKit Cu

theorem drewN_below (w : World) (n : Nat) : Below w.heap.size w (w.drewN n) := below_drewN (Below.refl _ _) n
/-- What the closure holds: the keys, where to begin, the text. -/
structure Cap (w : World) (g1 g2 g3 : Nat) (a : Option Addr) (n c i : Nat) (b : ByteArray) : Prop where
  k1 : w.cell? ⟨g1, 0, none⟩ = some (.slice a n c)
  k2 : w.cell? ⟨g2, 0, none⟩ = some (.int .i64 (i : Int))
  k3 : w.cell? ⟨g3, 0, none⟩ = some (.string b)
theorem Cap.later {w w' : World} {g1 g2 g3 : Nat} {a : Option Addr} {n c i : Nat} {b : ByteArray} (h : Cap w g1 g2 g3 a n c i b) (hb : Below w.heap.size w w') : Cap w' g1 g2 g3 a n c i b := by
  have lt : ∀ {g : Nat} {v : Value}, w.cell? ⟨g, 0, none⟩ = some v → g < w.heap.size := fun h => inHeap h
  exact ⟨(hb.cell (p := ⟨g1, 0, none⟩) (lt h.k1)).trans h.k1, (hb.cell (p := ⟨g2, 0, none⟩) (lt h.k2)).trans h.k2, (hb.cell (p := ⟨g3, 0, none⟩) (lt h.k3)).trans h.k3⟩
set_option maxHeartbeats 2000000 in
theorem clo_any (g1 g2 g3 : Nat) (a : Option Addr) (T : List ByteArray) (c i : Nat) (b : ByteArray) (j : Nat) (w : World) (hC : Cap w g1 g2 g3 a T.length c i b) (hT : Strs w a T) (hj : i + j < T.length) (hl : T.length ≤ 8796093021952)
    (hs : ∀ s ∈ T, s.size ≤ 281474976710656) (hb : b.size ≤ 281474976710656) :
    Calls Try.prog 9 #[.int .i64 (j : Int), .pointer (some ⟨g1, 0, none⟩), .pointer (some ⟨g2, 0, none⟩), .pointer (some ⟨g3, 0, none⟩)] w fun e w' => e = .returned (.bool (!prfB T[i + j] b)) ∧ Below w.heap.size w w' := by
  have hx : T[i + j]? = some T[i + j] := List.getElem?_eq_getElem hj
  have hsz := hs _ (List.getElem_mem hj)
  obtain ⟨g, o, rfl, -, hc⟩ := hT (i + j) _ hx
  have HP : Hid (∀ n : Nat, Calls Try.prog 10 #[.string T[i + j], .string b] (w.drewN n) fun e w' => e = .returned (.bool (prfB T[i + j] b)) ∧ w' = w.drewN n) := fun n => pre_any _ b (w.drewN n) hsz hb
  generalize T[i + j] = x at *
  generalize prfB x b = q at *
  obtain ⟨k1, k2, k3⟩ := hC
  have e1 : (i : Int) + (j : Int) = ((i + j : Nat) : Int) := by omega
  have e2 : IntKind.i64.wrap ((i + j : Nat) : Int) = ((i + j : Nat) : Int) := i64_left _ (by omega) (by omega)
  have hlt : ((i + j : Nat) : Int) < (T.length : Int) := by omega
  generalize i + j = m at *
  generalize T.length = n at *
  clear hx hsz hs hb hT hj
  go_enter Try.func9, Try.ntmps9
  go_wp2_with fail
  go_quiet ((go_at_call 10; exact Calls.quiet_of_same (HP.out _)))
  go_wp2_with fail
  go_ret
  exact ⟨rfl, drewN_below _ _⟩
/-- Where a search by a test f of the numbers below n ends. -/
def Sch (f : Nat → Bool) (n m : Nat) : Prop := m ≤ n ∧ (0 < m → f (m - 1) = false) ∧ (m < n → f m = true)
set_option maxHeartbeats 4000000 in
theorem search_any (g1 g2 g3 : Nat) (a : Option Addr) (T : List ByteArray) (c i : Nat) (b : ByteArray) (w : World) (n : Nat) (hn : i + n = T.length) (hC : Cap w g1 g2 g3 a T.length c i b) (hT : Strs w a T) (hl : T.length ≤ 8796093021952)
    (hs : ∀ s ∈ T, s.size ≤ 281474976710656) (hb : b.size ≤ 281474976710656) :
    Calls Try.prog 8 #[.int .i64 (n : Int), .func (.func 9) #[] #[.pointer (some ⟨g1, 0, none⟩), .pointer (some ⟨g2, 0, none⟩), .pointer (some ⟨g3, 0, none⟩)]] w fun e w' => ∃ m : Nat, e = .returned (.int .i64 (m : Int)) ∧ Sch (fun j => !prfB (T.getD (i + j) ByteArray.empty) b) n m ∧ Below w.heap.size w w' := by
  have HC : Hid (∀ (j : Nat) (W : World), j < n → Below w.heap.size w W → Calls Try.prog 9 #[.int .i64 (j : Int), .pointer (some ⟨g1, 0, none⟩), .pointer (some ⟨g2, 0, none⟩), .pointer (some ⟨g3, 0, none⟩)] W fun e w' => e = .returned (.bool ((fun j => !prfB (T.getD (i + j) ByteArray.empty) b) j)) ∧ Below W.heap.size W w') := fun j W hj hW => by
    have := clo_any g1 g2 g3 a T c i b j W (hC.later hW) (hT.later hW) (by omega) hl hs hb
    have e : T.getD (i + j) ByteArray.empty = T[i + j]'(by omega) := by rw [List.getD_eq_getElem?_getD, List.getElem?_eq_getElem (by omega)]; rfl
    show Calls _ _ _ _ fun e w' => e = .returned (.bool (!prfB (T.getD (i + j) ByteArray.empty) b)) ∧ _
    rw [e]
    exact this
  have hnl : n ≤ 8796093021952 := by omega
  generalize (fun j => !prfB (T.getD (i + j) ByteArray.empty) b) = f at *
  clear hC hT hs hb hn hl
  go_enter Try.func8, Try.ntmps8
  go_wp2_with fail
  go_loopw [5, 6] (fun ix jx wr => ∃ p q : Nat, p ≤ q ∧ q ≤ n ∧ ix = .int .i64 (p : Int) ∧ jx = .int .i64 (q : Int) ∧ Hid ((0 < p → f (p - 1) = false) ∧ (q < n → f q = true)) ∧ Hid (Below w.heap.size w wr)) (fun ix jx _ => (intOf jx).toNat - (intOf ix).toNat)
  case atStart => exact ⟨0, n, Nat.zero_le _, Nat.le_refl _, rfl, rfl, ⟨fun h => by omega, fun h => by omega⟩, Below.refl _ _⟩
  case round =>
    obtain ⟨p, q, hpq, hqn, rfl, rfl, HG, HB⟩ := hrel
    rename World => wr
    by_cases hlt : p < q
    · obtain ⟨s, hs⟩ : ∃ s, p + q = s := ⟨_, rfl⟩
      obtain ⟨h, hh⟩ : ∃ h, s / 2 = h := ⟨_, rfl⟩
      have hsz : (p : Int) + (q : Int) = (s : Int) := by omega
      have hsw : IntKind.i64.wrap (s : Int) = (s : Int) := i64_left _ (by omega) (by omega)
      have hsu : IntKind.u64.wrap (s : Int) = (s : Int) := u64_left _ (by omega) (by omega)
      have hhz : (s : Int) / 2 = (h : Int) := by omega
      have hhw : IntKind.i64.wrap (h : Int) = (h : Int) := i64_left _ (by omega) (by omega)
      have hhu : IntKind.u64.wrap (h : Int) = (h : Int) := u64_left _ (by omega) (by omega)
      have hih : p ≤ h := by omega
      have hhj : h < q := by omega
      have hlz : (p : Int) < (q : Int) := by omega
      have HCh := hid (HC.out h wr (by omega) HB.out)
      have HN : Hid (f h = false → (0 < h + 1 → f (h + 1 - 1) = false) ∧ (q < n → f q = true)) := fun e => ⟨fun _ => by rw [Nat.add_sub_cancel]; exact e, HG.out.2⟩
      have HY : Hid (∀ v, f h = v → v = true → (0 < p → f (p - 1) = false) ∧ (h < n → f h = true)) := fun v e1 e => ⟨HG.out.1, fun _ => by rw [e1, e]⟩
      have HYh := hid (HY.out _ rfl)
      have HYc : Hid (∀ v, f h = v → Hid (v = true → (0 < p → f (p - 1) = false) ∧ (h < n → f h = true))) := fun v e => HY.out v e
      obtain ⟨v, hv⟩ : ∃ v, f h = v := ⟨_, rfl⟩
      have HYv := HYc.out v hv
      rw [hv] at HN
      have HCv : Hid (Calls Try.prog 9 #[.int .i64 (h : Int), .pointer (some ⟨g1, 0, none⟩), .pointer (some ⟨g2, 0, none⟩), .pointer (some ⟨g3, 0, none⟩)] wr fun e w' => e = .returned (.bool v) ∧ Below wr.heap.size wr w') := by rw [← hv]; exact HCh.out
      clear hs hh HG hv HY HYh HYc HCh
      go_wp2_with fail
      refine HCv.out.mono ?_
      rintro e w2 ⟨rfl, hb2⟩
      have B2 := hid (below_up HB.out hb2)
      clear hb2 HB HCv
      cases v with
      | false =>
        have HN2 := hid (HN.out rfl)
        clear HN HYv
        go_wp2_with fail
        exact ⟨⟨h + 1, q, by omega, hqn, by go_num, rfl, HN2, B2⟩, by simp [intOf]; omega⟩
      | true =>
        have HY2 : Hid ((0 < p → f (p - 1) = false) ∧ (h < n → f h = true)) := HYv.out rfl
        clear HN HYv
        go_wp2_with fail
        exact ⟨⟨p, h, by omega, by omega, rfl, rfl, HY2, B2⟩, by simp [intOf]; omega⟩
    · obtain rfl : p = q := by omega
      have hlz : ¬ (p : Int) < (p : Int) := by omega
      go_wp2_with fail
      go_ret
      exact ⟨p, rfl, ⟨hqn, HG.out⟩, HB.out⟩
set_option maxHeartbeats 4000000 in
theorem range_any (a : Option Addr) (T : List ByteArray) (c : Nat) (b : ByteArray) (w : World) (hT : Strs w a T) (hl : T.length ≤ 8796093021952) (hs : ∀ s ∈ T, s.size ≤ 281474976710656) (hb : b.size ≤ 281474976710656) :
    Calls Try.prog 5 #[.slice a T.length c, .string b] w fun e w' => ∃ i m : Nat, e = .returned (.tuple #[.int .i64 (i : Int), .int .i64 ((i + m : Nat) : Int)]) ∧ i ≤ T.length ∧ Srch T b i i ∧ Sch (fun j => !prfB (T.getD (i + j) ByteArray.empty) b) (T.length - i) m ∧ Below w.heap.size w w' := by
  have HF : Hid (∀ W, Below w.heap.size w W → Calls Try.prog 7 #[.slice a T.length c, .string b] W fun e w' => ∃ i : Nat, e = .returned (.int .i64 (i : Int)) ∧ i ≤ T.length ∧ Srch T b i i ∧ w' = W) := fun W hW => floorT_any a T c b W (hT.later hW) hl
  have HS : Hid (∀ (W : World) (g1 g2 g3 i n : Nat), Below w.heap.size w W → i + n = T.length → Cap W g1 g2 g3 a T.length c i b → Calls Try.prog 8 #[.int .i64 (n : Int), .func (.func 9) #[] #[.pointer (some ⟨g1, 0, none⟩), .pointer (some ⟨g2, 0, none⟩), .pointer (some ⟨g3, 0, none⟩)]] W fun e w' => ∃ m : Nat, e = .returned (.int .i64 (m : Int)) ∧ Sch (fun j => !prfB (T.getD (i + j) ByteArray.empty) b) n m ∧ Below W.heap.size W w') :=
    fun W g1 g2 g3 i n hW hn hC => search_any g1 g2 g3 a T c i b W n hn hC (hT.later hW) hl hs hb
  generalize hG : (fun i j => !prfB (T.getD (i + j) ByteArray.empty) b) = G
  have HG : Hid (∀ i, (fun j => !prfB (T.getD (i + j) ByteArray.empty) b) = G i) := by rw [← hG]; exact fun i => rfl
  simp only [HG.out] at HS ⊢
  generalize hn : T.length = n at *
  have HR := fun i => hid (fun h : Srch T b i i => h)
  clear hT hs hb hG hn
  obtain ⟨w1, hw1⟩ : ∃ w1, w.alloc (.cells #[.slice a n c] 22) = w1 := ⟨_, rfl⟩
  obtain ⟨w2, hw2⟩ : ∃ w2, w1.alloc (.cells #[.string b] 9) = w2 := ⟨_, rfl⟩
  have b1 : Below w.heap.size w w1 := by rw [← hw1]; exact below_new _ _
  have b2 : Below w1.heap.size w1 w2 := by rw [← hw2]; exact below_new _ _
  have k1 : w2.cell? ⟨w.heap.size, 0, none⟩ = some (.slice a n c) := by
    have h1 : w1.cell? ⟨w.heap.size, 0, none⟩ = some (.slice a n c) := by rw [← hw1]; simp
    exact (b2.cell (p := ⟨w.heap.size, 0, none⟩) (inHeap h1)).trans h1
  have k2 : w2.cell? ⟨w1.heap.size, 0, none⟩ = some (.string b) := by rw [← hw2]; simp
  have HB := hid (below_up b1 b2)
  go_enter Try.func5, Try.ntmps5
  go_wp2_with fail
  refine (HF.out w2 HB.out).mono ?_
  rintro e w2' ⟨i, rfl, hi, hsr, hw2'⟩
  subst hw2'
  have HSr := hid hsr
  obtain ⟨m0, hm0⟩ : ∃ m0, i + m0 = n := ⟨n - i, by omega⟩
  have e1 : (n : Int) - (i : Int) = (m0 : Int) := by omega
  have e2 : IntKind.i64.wrap (m0 : Int) = (m0 : Int) := i64_left _ (by omega) (by omega)
  have e3 : n - i = m0 := by omega
  obtain ⟨w3, hw3⟩ : ∃ w3, w2'.alloc (.cells #[.int .i64 (i : Int)] 3) = w3 := ⟨_, rfl⟩
  have b3 : Below w2'.heap.size w2' w3 := by rw [← hw3]; exact below_new _ _
  have k3 : w3.cell? ⟨w2'.heap.size, 0, none⟩ = some (.int .i64 (i : Int)) := by rw [← hw3]; simp
  replace k1 := (b3.cell (p := ⟨w.heap.size, 0, none⟩) (inHeap k1)).trans k1
  replace k2 := (b3.cell (p := ⟨w1.heap.size, 0, none⟩) (inHeap k2)).trans k2
  replace HB := hid (below_up HB.out b3)
  clear hsr b1 b2 b3 hw1 hw2 HF
  go_wp2_with fail
  refine (HS.out w3 _ _ _ i m0 HB.out hm0 ⟨k1, k3, k2⟩).mono ?_
  rintro e w4 ⟨m, rfl, hsc, b4⟩
  have HSc := hid hsc
  have hm : m ≤ m0 := hsc.1
  replace k3 := (b4.cell (p := ⟨w2'.heap.size, 0, none⟩) (inHeap k3)).trans k3
  replace HB := hid (below_up HB.out b4)
  have e4 : (i : Int) + (m : Int) = ((i + m : Nat) : Int) := by omega
  have e5 : IntKind.i64.wrap ((i + m : Nat) : Int) = ((i + m : Nat) : Int) := i64_left _ (by omega) (by omega)
  generalize hq : i + m = q at *
  clear hsc b4 HS k1 k2 hw3
  go_wp2_with fail
  go_quiet (fail)
  go_wp2_with fail
  trace_state
  refine bodyPost_ret (v := .tuple #[.int .i64 (i : Int), .int .i64 (q : Int)]) (by simp [results, Try.results5, go_sem]) rfl ?_
  exact ⟨i, m, by rw [hq], hi, HSr.out, by rw [e3]; exact HSc.out, below_up HB.out (drewN_below _ _)⟩
end Go.Proofs.Ytigoogfgbikgcaa.Tx
