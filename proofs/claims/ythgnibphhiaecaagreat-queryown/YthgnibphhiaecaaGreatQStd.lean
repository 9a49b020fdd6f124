/-
  law.stamped: what was stamped still has its numbers. (Written by mkspl.py.)
-/
import Derived.Test.YthgnibphhiaecaaGreatQStM
namespace Go.Proofs.YthgnibphhiaecaaGreat
open Go.ChangeShapes Go.WideShapes Go.ChangeAt Go.RowKit Cu Vl
attribute [local go_sem] run_store_float

theorem results_tmp2S {fn : Func} {t u : Tmp} (h : fn.results = #[.tmp t, .tmp u]) (tmps : Array Value) (P : Program) (w : World) :
    (results fn tmps).run P w = .ok (.tuple #[tmps.getD t undef, tmps.getD u undef]) w := by
  simp [results, h]
def StdOk (t : T) : Prop := ∀ (n m : Int) (w : World), MT w w.heap.size t → StOk t n m → Calls Tryz.prog 12 #[tv t, .int .i64 n] w fun r w' => r = .returned (.tuple #[.int .i64 m, .bool true]) ∧ Below w.heap.size w w'
set_option maxRecDepth 8000 in
set_option maxHeartbeats 16000000 in
theorem stamped_any : ∀ t, StdOk t := by
  refine T.ind fun t ih => ?_
  intro n m w hm hs
  have hres : Tryz.f12.results = #[.tmp 4, .tmp 5] := by kernel_rfl
  have HRES := hid hres
  clear hres
  rw [MT_iff] at hm
  obtain ⟨hH, hV, hKs, hKb, hkm⟩ := hm
  obtain ⟨hs1, hs2⟩ := StOk_iff.1 hs
  have b1 := below_new w (.cells (ta t) 29)
  have x1 := Bx.new w (ta t) 29
  obtain ⟨w1, hw1⟩ : ∃ w1, w.alloc (.cells (ta t) 29) = w1 := ⟨_, rfl⟩
  rw [hw1] at b1 x1
  have TX := hid fun (W : World) (h : Below w1.heap.size w1 W) => (x1.later h).nine'
  have TV := hid fun (W : World) (h : Below w1.heap.size w1 W) => hV.1.later (below_up b1 h)
  have TK := hid fun (W : World) (h : Below w1.heap.size w1 W) => hKb.1.later (below_up b1 h)
  have TM := hid fun (W : World) (h : Below w1.heap.size w1 W) k (hk : k ∈ t.ks) => (hkm k hk).on (below_up b1 h)
  have HS1 := hid hs1
  have HS2 := hid hs2
  have HI := hid ih
  have HB1 := hid b1
  have B1 : Hid (Below w1.heap.size w1 w1) := Below.refl _ _
  have hvn : t.h.l.length ≤ 140737488355328 := by have := hH.n; omega
  have hkn : t.ks.length ≤ 140737488355328 := by have := hKs.n; omega
  obtain ⟨p0, p1, p2, p3, p4, p5, p6, p7, p8⟩ := Bx.prd x1
  clear b1 x1 hH hV hKs hKb hkm hs1 hs2 hs ih
  obtain ⟨⟨K, c, op, ⟨vK, vI, vb, vs⟩, l⟩, la, lc, kb, kc, kk⟩ := t
  dsimp only [T.h, T.la, T.lc, T.kb, T.kc, T.ks, tv, ta, T.pr, pv, pa, prH] at *
  go_enter Tryz.func12, Tryz.ntmps12
  go_wp2_with fail
  clear hw1 p0 p1 p2 p3 p4 p5 p6 p7 p8
  go_loopw [1, 6, 7] (fun nx rx ix wr => ∃ i : Nat, i ≤ l.length ∧ ix = .int .i64 i ∧ nx = .int .i64 (num n i) ∧ rx = .bool true ∧ Hid (Below w1.heap.size w1 wr)) (fun _ _ ix _ => l.length - (intOf ix).toNat)
  case atStart => exact ⟨0, Nat.zero_le _, rfl, rfl, rfl, B1⟩
  case round =>
    clear B1
    obtain ⟨i, hi, rfl, rfl, rfl, HB⟩ := hrel
    rename World => wr
    obtain ⟨q0, q1, q2, q3, q4, q5, q6, q7, q8⟩ := TX.out wr HB.out
    by_cases hlt : i < l.length
    · have hii : (i : Int) < (l.length : Int) := by omega
      obtain ⟨g, o, rfl, hg, k0, k1, k2, k3⟩ := (TV.out wr HB.out).cell4 hlt
      have hI := HS1.out i l[i] (List.getElem?_eq_getElem hlt)
      rw [hI] at k1
      have hnx : num n (i + 1) = wrap64 (num n i + 1) := rfl
      generalize num n i = ni at *
      have hee : (ni == ni) = true := by simp
      clear hI k0 k2 k3
      go_wp2_with fail
      exact ⟨⟨i + 1, by omega, by go_num, by rw [hnx], rfl, HB⟩, by simp [intOf]; omega⟩
    · obtain rfl : i = l.length := by omega
      obtain ⟨n0, hn0⟩ : ∃ x, num n l.length = x := ⟨_, rfl⟩
      rw [hn0] at HS2 ⊢
      have HS0 : Hid (StL (kk.drop 0) n0 m) := by show StL _ _ _; simpa using HS2.out
      clear hn0 HS2
      go_wp2_with fail
      clear q0 q1 q2 q3 q4 q5 q6 q7 q8
      go_loopw [1, 6, 8] (fun nx rx ix ws => ∃ j : Nat, j ≤ kk.length ∧ ix = .int .i64 j ∧ ∃ mj : Int, nx = .int .i64 mj ∧ rx = .bool true ∧ Hid (StL (kk.drop j) mj m) ∧ Hid (Below w1.heap.size w1 ws)) (fun _ _ ix _ => kk.length - (intOf ix).toNat)
      case atStart => exact ⟨0, Nat.zero_le _, rfl, n0, rfl, rfl, HS0, HB⟩
      case round =>
        clear HS0 HB
        obtain ⟨j, hj, rfl, mj, rfl, rfl, HS, HB⟩ := hrel
        rename World => ws
        obtain ⟨q0, q1, q2, q3, q4, q5, q6, q7, q8⟩ := TX.out ws HB.out
        by_cases hlt : j < kk.length
        · have hjj : (j : Int) < (kk.length : Int) := by omega
          have hs := HS.out
          rw [List.drop_eq_getElem_cons hlt, StL] at hs
          obtain ⟨hop, m1, hok, hrest⟩ := hs
          obtain ⟨g, o, rfl, hg, hc⟩ := (TK.out ws HB.out) j kk[j] (List.getElem?_eq_getElem hlt)
          have HCall := hid (HI.out _ (List.getElem_mem hlt) (wrap64 (mj + 1)) m1 ws (TM.out ws HB.out _ (List.getElem_mem hlt)) hok)
          have HRest := hid hrest
          clear hok hrest HS
          generalize kk[j] = kt at *
          obtain ⟨⟨kK, kcc, kop, ⟨kvK, kvI, kvb, kvs⟩, kl⟩, kla, klc, kkb, kkc, kks⟩ := kt
          have k0 := hc 0 _ rfl
          have k1 := hc 1 _ rfl
          have k2 := hc 2 _ rfl
          have k3 := hc 3 _ rfl
          have k4 := hc 4 _ rfl
          have k5 := hc 5 _ rfl
          have k6 := hc 6 _ rfl
          have k7 := hc 7 _ rfl
          have k8 := hc 8 _ rfl
          rw [Nat.add_zero] at k0
          dsimp only [T.h, T.la, T.lc, T.kb, T.kc, T.ks, tv, T.pr, pv, pa, prH] at hop HCall
          subst hop
          have hee : (kop == kop) = true := by simp
          clear hc hg
          go_wp2_with fail
          refine HCall.out.mono ?_
          rintro e w2 ⟨rfl, hb⟩
          have HB2 := hid (below_up HB.out hb)
          clear HCall hb HB q0 q1 q2 q3 q4 q5 q6 q7 q8 k0 k1 k2 k3 k4 k5 k6 k7 k8
          go_wp2_with fail
          exact ⟨⟨j + 1, by omega, by go_num, m1, rfl, rfl, HRest, HB2⟩, by simp [intOf]; omega⟩
        · obtain rfl : j = kk.length := by omega
          have hs := HS.out
          rw [List.drop_length, StL] at hs
          subst hs
          have HE := hid (below_up HB1.out HB.out)
          clear HS
          go_wp2_with fail
          (try simp only [Exit.inBlock, Exit.then])
          refine bodyPost_ret (results_tmp2S HRES.out _ _ _) rfl ?_
          exact ⟨rfl, HE.out⟩
end Go.Proofs.YthgnibphhiaecaaGreat
