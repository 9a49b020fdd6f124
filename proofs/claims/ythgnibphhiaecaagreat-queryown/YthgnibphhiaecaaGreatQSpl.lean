/-
  law.spoil: all lists of a predicate are written over. (Written by mkspl.py.)
-/
import Derived.Test.YthgnibphhiaecaaGreatQSplM
namespace Go.Proofs.YthgnibphhiaecaaGreat
open Go.ChangeShapes Go.WideShapes Go.ChangeAt Go.RowKit Cu Vl
attribute [local go_sem] run_store_float

def sp77 : V := ⟨1, 77, 0, ⟨#[]⟩⟩
def sp99 : T := .mk ⟨99, ⟨#[]⟩, 0, v0, []⟩ none 0 none 0 []
theorem own_put9 {w : World} {B g n c : Nat} {ts : List T} (h : OwnL tc 9 w B 29 (.slice (some ⟨g, 0, none⟩) n c) ts) {j : Nat} (hj : j < ts.length) (t : T) : OwnL tc 9 (put9 w g (j * 9) t) B 29 (.slice (some ⟨g, 0, none⟩) n c) (ts.set j t) := by
  obtain ⟨_, _, _, _, rfl⟩ := own_some tc_len h (by omega)
  have h2 := (OwnL.put9 h hj t).2.2
  rwa [List.length_set] at h2
def SplOk (t : T) : Prop := ∀ (w : World) (B : Nat), FT w B t → B ≤ w.heap.size → Calls Tryz.prog 9 #[tv t] w fun r w' => r = .returned (.tuple #[]) ∧ Fr t.blk B w w'
set_option maxRecDepth 8000 in
set_option maxHeartbeats 16000000 in
theorem spoil_any : ∀ t, SplOk t := by
  refine T.ind fun t ih => ?_
  intro w B hft hB
  have b1 := below_new w (.cells (ta t) 29)
  have x1 := Bx.new w (ta t) 29
  obtain ⟨w1, hw1⟩ : ∃ w1, w.alloc (.cells (ta t) 29) = w1 := ⟨_, rfl⟩
  rw [hw1] at b1 x1
  have hn1 := NT_iff.1 (NT.later b1 hft.1)
  have HD := hid (Dis.of hft.2)
  have HLt : Hid (∀ b ∈ t.blk, b < w.heap.size) := fun b hb => (NT.lt t hft.1 b hb).2
  have F1 : Hid (Fr t.blk B w w1) := Fr.new b1 hB
  have HX : Hid (∀ W, Fr t.blk B w1 W → Bx W w.heap.size (ta t) 29) := fun W h => (h.same _ x1.lt (fun hm => by have := HLt.out _ hm; omega)).trans x1
  have HBl : Hid ((∀ b ∈ blkO t.la, b ∈ t.blk) ∧ (∀ b ∈ blkO t.kb, b ∈ t.blk) ∧ ∀ k ∈ t.ks, ∀ b ∈ k.blk, b ∈ t.blk) := by
    show _ ∧ _
    rw [blk_eq]
    exact ⟨fun b hb => List.mem_append_left _ hb, fun b hb => List.mem_append_right _ (List.mem_append_left _ hb), fun k hk b hb => List.mem_append_right _ (List.mem_append_right _ (blkL_mem.2 ⟨k, hk, hb⟩))⟩
  have HV0 : Hid (OwnL vc 4 w1 B 25 (.slice t.la t.h.l.length t.lc) t.h.l) := hn1.2.1
  have HK0 : Hid (OwnL tc 9 w1 B 29 (.slice t.kb t.ks.length t.kc) t.ks) := hn1.2.2.1
  have HT0 : Hid (∀ k ∈ t.ks, FT w1 B k) := fun k hk => ⟨hn1.2.2.2 k hk, HD.out.kn k hk⟩
  have HN := hid hn1.1
  have hvn : t.h.l.length ≤ 140737488355328 := by have := hn1.1.1.n; omega
  have hkn : t.ks.length ≤ 140737488355328 := by have := hn1.1.2; omega
  have HI := hid ih
  have F2 : Hid (Fr t.blk B w1 w1) := Fr.refl _ _ _
  obtain ⟨p0, p1, p2, p3, p4, p5, p6, p7, p8⟩ := Bx.prd x1
  have fx := Bx.frz x1
  clear b1 x1 hn1 hft hB ih
  generalize t.blk = bl at *
  obtain ⟨⟨K, c, op, ⟨vK, vI, vb, vs⟩, l⟩, la, lc, kb, kc, kk⟩ := t
  dsimp only [T.h, T.la, T.lc, T.kb, T.kc, T.ks, tv, ta, T.pr, pv, pa, prH] at *
  go_enter Tryz.func9, Tryz.ntmps9
  go_wp2_with fail
  clear hw1 p0 p1 p2 p3 p4 p5 p6 p7 p8 fx
  go_loopw [2] (fun ix wr => ∃ i : Nat, i ≤ l.length ∧ ix = .int .i64 i ∧ ∃ l' : List V, l'.length = l.length ∧ Hid (OwnL vc 4 wr B 25 (.slice la l.length lc) l') ∧ Hid (OwnL tc 9 wr B 29 (.slice kb kk.length kc) kk) ∧ Hid (∀ k ∈ kk, FT wr B k) ∧ Hid (Fr bl B w1 wr)) (fun ix _ => l.length - (intOf ix).toNat)
  case atStart => exact ⟨0, Nat.zero_le _, rfl, l, rfl, HV0, HK0, HT0, F2⟩
  case round =>
    clear HV0 HK0 HT0 F2
    obtain ⟨i, hi, rfl, l', hl', HV, HK, HT, HF⟩ := hrel
    rename World => wr
    obtain ⟨q0, q1, q2, q3, q4, q5, q6, q7, q8⟩ := (HX.out wr HF.out).nine'
    have fx := (HX.out wr HF.out).frz
    by_cases hlt : i < l.length
    · have hii : (i : Int) < (l.length : Int) := by omega
      have hil : i < l'.length := by omega
      obtain ⟨g, rfl, hg1, hg2, -⟩ := own_some vc_len HV.out (by omega)
      have hz := own_frz HV.out
      have hc := own_cells vc_len HV.out hil
      generalize l'[i] = y at hc
      obtain ⟨yK, yI, yb, ys⟩ := y
      have k0 := hc 0 _ rfl
      have k1 := hc 1 _ rfl
      have k2 := hc 2 _ rfl
      have k3 := hc 3 _ rfl
      rw [Nat.add_zero] at k0
      have hgb : g ∈ blkO (some (⟨g, 0, none⟩ : Addr)) := by simp [blkO]
      have hfr : Fr (blkO (some (⟨g, 0, none⟩ : Addr))) B wr (put4 wr g (i * 4) sp77) := put4_fr hgb hg1
      have HV2 := hid (own_put4 HV.out hil sp77)
      have HK2 := hid (HK.out.fr hfr fun b hb hb2 => HD.out.lk b hb2 hb)
      have HT2 : Hid (∀ k ∈ kk, FT (put4 wr g (i * 4) sp77) B k) := fun k hk => (HT.out k hk).fr hfr fun b hb hb2 => HD.out.lt b hb2 k hk hb
      have HF2 := hid (HF.out.trans (hfr.sub HBl.out.1))
      have hl2 : (l'.set i sp77).length = l.length := by rw [List.length_set]; exact hl'
      clear hc hfr HV HK HT HF
      go_wp2_with fail
      exact ⟨⟨i + 1, by omega, by go_num, l'.set i sp77, hl2, HV2, HK2, HT2, HF2⟩, by simp [intOf]; omega⟩
    · obtain rfl : i = l.length := by omega
      have HK0 : Hid (OwnL tc 9 wr B 29 (.slice kb kk.length kc) ((kk.take 0).map (fun _ => sp99) ++ kk.drop 0)) := by
        show OwnL _ _ _ _ _ _ _
        simpa using HK.out
      have HT0 : Hid (∀ m (hm : m < kk.length), 0 ≤ m → FT wr B kk[m]) := fun m hm _ => HT.out _ (List.getElem_mem hm)
      clear HV HK HT hl'
      go_wp2_with fail
      clear q0 q1 q2 q3 q4 q5 q6 q7 q8 fx
      go_loopw [3] (fun ix ws => ∃ j : Nat, j ≤ kk.length ∧ ix = .int .i64 j ∧ Hid (OwnL tc 9 ws B 29 (.slice kb kk.length kc) ((kk.take j).map (fun _ => sp99) ++ kk.drop j)) ∧ Hid (∀ m (hm : m < kk.length), j ≤ m → FT ws B kk[m]) ∧ Hid (Fr bl B w1 ws)) (fun ix _ => kk.length - (intOf ix).toNat)
      case atStart => exact ⟨0, Nat.zero_le _, rfl, HK0, HT0, HF⟩
      case round =>
        clear HK0 HT0 HF
        obtain ⟨j, hj, rfl, HK, HT, HF⟩ := hrel
        rename World => ws
        obtain ⟨q0, q1, q2, q3, q4, q5, q6, q7, q8⟩ := (HX.out ws HF.out).nine'
        have fx := (HX.out ws HF.out).frz
        by_cases hlt : j < kk.length
        · have hjj : (j : Int) < (kk.length : Int) := by omega
          have hjm : j < ((kk.take j).map (fun _ => sp99) ++ kk.drop j).length := by simp; omega
          obtain ⟨g, rfl, hg1, hg2, -⟩ := own_some tc_len HK.out (by omega)
          have hc := own_cells tc_len HK.out hjm
          rw [mix_get (fun _ => sp99) kk hlt hjm] at hc
          have HSet := hid (mix_set (fun _ => sp99) kk hlt)
          have HFj := hid (HT.out j hlt (Nat.le_refl _))
          have HIj := hid (HI.out _ (List.getElem_mem hlt))
          have hkd : ∀ b ∈ blkO (some (⟨g, 0, none⟩ : Addr)), ∀ k ∈ kk, b ∉ k.blk := HD.out.kt
          have HKd := hid (fun b hb => hkd b hb kk[j] (List.getElem_mem hlt))
          have HKk := hid (fun m (hm : m < kk.length) (hne : m ≠ j) => HD.out.kk m j hm hlt hne)
          have HBj := hid (HBl.out.2.2 _ (List.getElem_mem hlt))
          have HKD := hid hkd
          have hc0 := hc 0
          have hc1 := hc 1
          have hc2 := hc 2
          have hc3 := hc 3
          have hc4 := hc 4
          have hc5 := hc 5
          have hc6 := hc 6
          have hc7 := hc 7
          have hc8 := hc 8
          clear hc hkd
          generalize hkt : kk[j] = kt at *
          obtain ⟨tt, htt⟩ : ∃ x, kt = x := ⟨_, rfl⟩
          rw [htt] at HFj HIj HKd HKk HBj
          have HCall := hid (HIj.out ws B HFj.out (by have := hg2; omega))
          clear HIj HFj hkt
          have HTT := hid htt
          obtain ⟨⟨kK, kcc, kop, ⟨kvK, kvI, kvb, kvs⟩, kl⟩, kla, klc, kkb, kkc, kks⟩ := kt
          have m0 := hc0 _ rfl
          have m1 := hc1 _ rfl
          have m2 := hc2 _ rfl
          have m3 := hc3 _ rfl
          have m4 := hc4 _ rfl
          have m5 := hc5 _ rfl
          have m6 := hc6 _ rfl
          have m7 := hc7 _ rfl
          have m8 := hc8 _ rfl
          rw [Nat.add_zero] at m0
          rw [← htt] at HCall
          dsimp only [T.h, T.la, T.lc, T.kb, T.kc, T.ks, tv, T.pr, pv, pa, prH] at HCall
          clear hc0 hc1 hc2 hc3 hc4 hc5 hc6 hc7 hc8 htt
          go_wp2_with fail
          refine HCall.out.mono ?_
          rintro e w2 ⟨rfl, hfr⟩
          rw [show (T.mk ⟨kK, kcc, kop, ⟨kvK, kvI, kvb, kvs⟩, kl⟩ kla klc kkb kkc kks).blk = tt.blk by rw [HTT.out]] at hfr
          have hk2 := HK.out.fr hfr fun b hb hb2 => HKd.out b hb hb2
          have ht2 : ∀ m (hm : m < kk.length), j + 1 ≤ m → FT w2 B kk[m] := fun m hm h => (HT.out m hm (by omega)).fr hfr fun b hb => HKk.out m hm (by omega) b hb
          have hf2 := HF.out.trans (hfr.sub HBj.out)
          have hz := own_frz hk2
          have hc := own_cells tc_len hk2 hjm
          generalize ((kk.take j).map (fun _ => sp99) ++ kk.drop j)[j] = y at hc
          obtain ⟨⟨yK, ycc, yop, ⟨yvK, yvI, yvb, yvs⟩, yl⟩, yla, ylc, ykb, ykc, yks⟩ := y
          have n0 := hc 0 _ rfl
          have n1 := hc 1 _ rfl
          have n2 := hc 2 _ rfl
          have n3 := hc 3 _ rfl
          have n4 := hc 4 _ rfl
          have n5 := hc 5 _ rfl
          have n6 := hc 6 _ rfl
          have n7 := hc 7 _ rfl
          have n8 := hc 8 _ rfl
          rw [Nat.add_zero] at n0
          have hgb : g ∈ blkO (some (⟨g, 0, none⟩ : Addr)) := by simp [blkO]
          have hfr9 : Fr (blkO (some (⟨g, 0, none⟩ : Addr))) B w2 (put9 w2 g (j * 9) sp99) := put9_fr hgb hg1
          have h9 := own_put9 hk2 hjm sp99
          rw [HSet.out] at h9
          have HK9 := hid h9
          have HT9 : Hid (∀ m (hm : m < kk.length), j + 1 ≤ m → FT (put9 w2 g (j * 9) sp99) B kk[m]) := fun m hm h => (ht2 m hm h).fr hfr9 fun b hb hb2 => HKD.out b hb2 _ (List.getElem_mem hm) hb
          have HF9 := hid (hf2.trans (hfr9.sub HBl.out.2.1))
          clear q0 q1 q2 q3 q4 q5 q6 q7 q8 m0 m1 m2 m3 m4 m5 m6 m7 m8 fx
          obtain ⟨q0, q1, q2, q3, q4, q5, q6, q7, q8⟩ := (HX.out w2 hf2).nine'
          have fx := (HX.out w2 hf2).frz
          clear hc hfr hk2 ht2 hf2 hfr9 h9 HK HT HF HCall HKd HKk HBj HKD HSet
          go_wp2_with fail
          exact ⟨⟨j + 1, by omega, by go_num, HK9, HT9, HF9⟩, by simp [intOf]; omega⟩
        · obtain rfl : j = kk.length := by omega
          go_wp2_with fail
          have hres : Tryz.f9.results = #[] := by kernel_rfl
          refine bodyPost_end (v := .tuple #[]) ?_ rfl ⟨rfl, F1.out.trans HF.out⟩
          simp only [results, hres]
          go_simp
end Go.Proofs.YthgnibphhiaecaaGreat
