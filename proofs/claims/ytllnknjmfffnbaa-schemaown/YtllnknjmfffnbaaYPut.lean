/-
  markOf, Put.
-/
import Derived.Test.YtllnknjmfffnbaaYCols
namespace Go.Proofs.Ytllnknjmfffnbaa
open Go.ChangeShapes Go.WideShapes Go.ChangeAt Go.RowKit Cu

theorem typ_in {c : Col} (h : colB c = true) : 1 ≤ c.T ∧ c.T ≤ 2 := by
  unfold colB typB at h
  simp only [Bool.and_eq_true, Bool.or_eq_true, decide_eq_true_eq] at h
  omega
theorem nm_in {c : Col} (h : colB c = true) : c.nm.size ≤ 64 := by
  unfold colB at h
  simp only [Bool.and_eq_true] at h
  exact name_small h.1
theorem mark_lt {c : Col} (h : colB c = true) : markN c < 256 := by
  have := typ_in h
  unfold markN
  split <;> omega
set_option maxHeartbeats 1000000 in
theorem mark_any (c : Col) (w : World) (h : colB c = true) : Calls Try.prog 25 #[cv c] w fun e w' => e = .returned (.int .u8 (markN c : Int)) ∧ Below w.heap.size w w' := by
  have ht := typ_in h
  have HM : Hid ((markN c : Int) = if c.nb = true then c.T + 4 else c.T) := by
    show (markN c : Int) = _
    unfold markN
    split <;> omega
  have b1 := hid (below_new w (.cells (ca c) 25))
  clear h
  obtain ⟨nm, T, nb⟩ := c
  unfold ca at b1
  unfold cv
  dsimp only at *
  generalize markN ⟨nm, T, nb⟩ = m at *
  cases nb
  · rw [if_neg (by simp)] at HM
    have hw : IntKind.u8.wrap T = T := by rw [IntKind.wrap_u8]; omega
    go_enter Try.func25, Try.ntmps25
    go_wp2_with fail
    go_ret
    exact ⟨ret_int HM.out.symm, b1.out⟩
  · rw [if_pos rfl] at HM
    have hw : IntKind.u8.wrap T = T := by rw [IntKind.wrap_u8]; omega
    have hw2 : IntKind.u8.wrap (T + 4) = T + 4 := by rw [IntKind.wrap_u8]; omega
    go_enter Try.func25, Try.ntmps25
    go_wp2_with fail
    go_ret
    exact ⟨ret_int HM.out.symm, b1.out⟩
theorem fx1 {m : Nat} (h : m < 256) : fx 1 m = [m] := by simp [fx, Nat.mod_eq_of_lt h]
theorem encC_le {c : Col} (h : colB c = true) : (encC c).length ≤ 75 := by
  have h1 := nm_in h
  have h2 := Cu.uv_le (bs c.nm).length
  unfold encC encB
  simp only [List.length_append, List.length_singleton, bs_len] at *
  omega
theorem encCs_le : ∀ {l : List Col}, (∀ c ∈ l, colB c = true) → (encCs l).length ≤ l.length * 75
  | [], _ => by simp [encCs]
  | c :: r, h => by
    have h1 := encC_le (h c (List.mem_cons_self ..))
    have h2 := encCs_le (l := r) (fun x hx => h x (List.mem_cons_of_mem _ hx))
    simp only [encCs, List.flatMap_cons, List.length_append, List.length_cons] at *
    omega
theorem ba_hb (w : World) (c : Col) : (w.alloc (.cells (ca c) 25)).heap.size = w.heap.size + 1 := by simp
set_option maxRecDepth 4000 in
set_option maxHeartbeats 4000000 in
theorem put_any (a : Option Addr) (l : List Col) (d : Nat) (w : World) (hL : Lst cc 3 w a l) (hF : Few l) (hl : l.length ≤ 140737488355328) :
    Calls Try.prog 10 #[.slice a l.length d] w fun e w' => ∃ v, e = .returned (.tuple #[v, .int .i64 (chkE l)]) ∧ NewL w w' v (putR l) := by
  have HC := hid (check_any a l d w hL hF hl)
  have HL := hid hL
  cases hq : chkB l
  · have HE := hid (chkE_no hq)
    have HP := hid (putR_no hq)
    rw [HE.out] at HC
    clear hL hF hq
    go_enter Try.func10, Try.ntmps10
    go_wp2_with fail
    refine HC.out.mono ?_
    rintro e w1 ⟨rfl, hb⟩
    have HB := hid hb
    clear hb
    go_wp2_with fail
    go_ret2
    rw [HE.out, HP.out]
    exact ⟨_, rfl, Own.nil _ _ _ _ _, HB.out⟩
  · have HE := hid (chkE_ok hq)
    have HP := hid (putR_ok hq)
    obtain ⟨⟨h1, h2⟩, hA, -⟩ := (chkB_iff l).1 hq
    have HA := hid hA
    rw [HE.out] at HC
    have HU := hid fun w => pPutUvarint none [] 0 l.length w (fun j hj => by simp at hj) (fun _ => ⟨rfl, rfl⟩) (by omega) (by simp)
    simp only [List.nil_append, List.length_nil] at HU
    have hu := Cu.uv_le l.length
    have hw : IntKind.u64.wrap (l.length : Int) = (l.length : Int) := by rw [IntKind.wrap_u64]; omega
    clear hL hF hq hA
    go_enter Try.func10, Try.ntmps10
    go_wp2_with fail
    refine HC.out.mono ?_
    rintro e w1 ⟨rfl, hb⟩
    have HB := hid hb
    clear hb
    go_wp2_with fail
    refine (HU.out _).mono ?_
    rintro e w2 ⟨v2, rfl, hN⟩
    have HN := hid (hN.up HB.out)
    clear hN
    go_wp2_with fail
    go_loopw [19, 5] (fun ix bv wr => ∃ i : Nat, i ≤ l.length ∧ ix = .int .i64 i ∧ Hid (NewL w wr bv (Cu.uv l.length ++ encCs (l.take i)))) (fun ix _ _ => l.length - (intOf ix).toNat)
    case atStart => exact ⟨0, Nat.zero_le _, rfl, by rw [show Cu.uv l.length ++ encCs (l.take 0) = Cu.uv l.length by simp [encCs]]; exact HN⟩
    case round =>
      obtain ⟨i, hi, rfl, HN⟩ := hrel
      rename World => wr
      obtain ⟨pa, pc, rfl, hnil, hBy⟩ := HN.out.form
      have HBl := hid HN.out.2
      by_cases hlt : i < l.length
      · have hii : (i : Int) < (l.length : Int) := by omega
        obtain ⟨g, o, rfl, _, k0, k1, k2⟩ := (HL.out.later HBl.out).cell3 hlt
        have HCi := hid (HA.out l[i] (List.getElem_mem hlt))
        have hU : (Cu.uv l.length ++ encCs (l.take i)).length ≤ 100000 := by
          have := encCs_le (l := l.take i) (fun c hc => HA.out c (List.mem_of_mem_take hc))
          rw [List.length_take] at this
          rw [List.length_append]
          omega
        have HS : Hid (Cu.uv l.length ++ encCs (l.take (i + 1)) = Cu.uv l.length ++ encCs (l.take i) ++ encC l[i]) := by rw [encCs_snoc hlt, List.append_assoc]; exact rfl
        generalize Cu.uv l.length ++ encCs (l.take i) = U at *
        generalize l[i] = c at *
        have HEn : Hid (encC c = encB (bs c.nm) ++ [markN c]) := rfl
        have hnm := nm_in HCi.out
        have hml := mark_lt HCi.out
        have HMk := hid fun w => mark_any c w HCi.out
        obtain ⟨nm, T, nb⟩ := c
        unfold cv at HMk
        dsimp only at *
        have hbW := below_new wr (.cells #[.string nm, .int .i64 T, .bool nb] 25)
        obtain ⟨cb, w3, hr3, hB3, hb3, hlt3⟩ := run_bytesL (wr.alloc (.cells #[.string nm, .int .i64 T, .bool nb] 25)) nm
        have HPB := hid (pPutBlock pa (some ⟨(wr.alloc (.cells #[.string nm, .int .i64 T, .bool nb] 25)).heap.size, 0, none⟩) U (bs nm) pc cb w3 ((hBy.later hbW).later hb3) hB3 hnil (by simp) (by rw [bs_len]; omega))
        have HB3 := hid (below_up (below_up HBl.out hbW) hb3)
        have e0 : w3.cell? ⟨wr.heap.size, 0, none⟩ = some (.string nm) := by rw [hb3.cell (p := ⟨wr.heap.size, 0, none⟩) (by simp)]; simp
        have e1 : w3.cell? ⟨wr.heap.size, 1, none⟩ = some (.int .i64 T) := by rw [hb3.cell (p := ⟨wr.heap.size, 1, none⟩) (by simp)]; simp
        have e2 : w3.cell? ⟨wr.heap.size, 2, none⟩ = some (.bool nb) := by rw [hb3.cell (p := ⟨wr.heap.size, 2, none⟩) (by simp)]; simp
        have hs3 : wr.heap.size < w3.heap.size := by have := hb3.size; simp at this; omega
        rw [show (wr.alloc (.cells #[.string nm, .int .i64 T, .bool nb] 25)).heap.size = wr.heap.size + 1 by simp] at hr3 HPB
        have E0 := hid e0
        have E1 := hid e1
        have E2 := hid e2
        have HR3 := hid hr3
        have HS3 := hid hs3
        clear e0 e1 e2 hr3 hs3 hB3 hb3 hlt3 hbW hBy
        have hrr := HR3.out
        go_wp2_with fail
        clear hrr
        refine HPB.out.mono ?_
        rintro e w4 ⟨v4, rfl, hN4⟩
        have f0 := (hN4.2.cell (p := ⟨wr.heap.size, 0, none⟩) HS3.out).trans E0.out
        have f1 := (hN4.2.cell (p := ⟨wr.heap.size, 1, none⟩) HS3.out).trans E1.out
        have f2 := (hN4.2.cell (p := ⟨wr.heap.size, 2, none⟩) HS3.out).trans E2.out
        obtain ⟨V, hV⟩ : ∃ V, U ++ encB (bs nm) = V := ⟨_, rfl⟩
        rw [hV] at hN4
        have hVl : V.length ≤ 100100 := by
          rw [← hV]
          unfold encB
          have := Cu.uv_le (bs nm).length
          simp only [List.length_append, bs_len] at *
          omega
        have HV := hid hV
        have HN4 := hid (hN4.up HB3.out)
        clear hN4 hV
        go_wp2_with fail
        refine (HMk.out _).mono ?_
        rintro e w5 ⟨rfl, hb5⟩
        obtain ⟨p5, c5, rfl, hnil5, hBy5⟩ := HN4.out.form
        have HPU := hid (pPut_uint8 p5 V c5 (markN ⟨nm, T, nb⟩) w5 (hBy5.later hb5) hnil5 hml (by omega))
        have HB5 := hid (below_up HN4.out.2 hb5)
        clear hb5 hBy5 f0 f1 f2
        generalize markN ⟨nm, T, nb⟩ = m at *
        go_wp2_with fail
        refine HPU.out.mono ?_
        rintro e w6 ⟨v6, rfl, hN6⟩
        have HN6 : Hid (NewL w w6 v6 (Cu.uv l.length ++ encCs (l.take (i + 1)))) := by
          rw [HS.out, HEn.out, ← List.append_assoc, HV.out]
          rw [fx1 hml] at hN6
          exact hN6.up HB5.out
        clear hN6
        go_wp2_with fail
        exact ⟨⟨i + 1, by omega, by go_num, HN6⟩, by simp [intOf]; omega⟩
      · obtain rfl : i = l.length := by omega
        have HN6 : Hid (NewL w wr (.slice pa (Cu.uv l.length ++ encCs (l.take l.length)).length pc) (putR l)) := by
          rw [HP.out]
          unfold frm
          have := HN.out
          rwa [List.take_length] at *
        clear hnil hBy
        go_wp2_with fail
        go_ret2
        rw [HE.out]
        exact ⟨_, rfl, HN6.out⟩
end Go.Proofs.Ytllnknjmfffnbaa
