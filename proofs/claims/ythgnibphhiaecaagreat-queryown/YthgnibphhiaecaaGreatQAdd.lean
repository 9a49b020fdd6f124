/-
  addPlain, addTurned. (Written by mkadd.py.)
-/
import Derived.Test.YthgnibphhiaecaaGreatQLot
import Derived.Deep.RegionHeld3
namespace Go.Proofs.YthgnibphhiaecaaGreat
open Go.ChangeShapes Go.WideShapes Go.ChangeAt Go.RowKit Cu Vl
attribute [local go_sem] run_store_float

def PlainPost (tn : Bool) (t : T) (w : World) (r : Ending) (w' : World) : Prop := ∃ t', r = .returned (tv t') ∧ t'.abs = plQ tn t.abs ∧ FT w' w.heap.size t' ∧ Below w.heap.size w w'
def AddPost (tn : Bool) (t : T) (B gl : Nat) (K : Int) (ts : List T) (w : World) (r : Ending) (w' : World) : Prop :=
  ∃ v' ts', r = .returned (.tuple #[]) ∧ LotI w' B gl K v' ts' ∧ absL ts' = absL ts ++ flat1 K (plQ tn t.abs) ∧ Below B w w'
def top40 : Nat := 1099511627776
def PlainOk (t : T) : Prop := ∀ (w : World), MT w w.heap.size t → t.abs.sz ≤ top40 → Calls Tryz.prog 8 #[tv t] w (PlainPost false t w)
def TurnedOk (t : T) : Prop := ∀ (w : World), MT w w.heap.size t → t.abs.sz ≤ top40 → Calls Tryz.prog 27 #[tv t] w (PlainPost true t w)
def AddOk (t : T) : Prop := ∀ (B gl : Nat) (K : Int) (v : Value) (ts : List T) (w : World), joinB K = true → MT w B t → B ≤ gl → LotI w B gl K v ts → ts.length + t.abs.sz ≤ top40 →
  Calls Tryz.prog 24 #[.pointer (some ⟨gl, 0, none⟩), tv t] w (AddPost false t B gl K ts w)
def AddTOk (t : T) : Prop := ∀ (B gl : Nat) (K : Int) (v : Value) (ts : List T) (w : World), joinB K = true → MT w B t → B ≤ gl → LotI w B gl K v ts → ts.length + t.abs.sz ≤ top40 →
  Calls Tryz.prog 38 #[.pointer (some ⟨gl, 0, none⟩), tv t] w (AddPost true t B gl K ts w)
theorem sz_take {ks : List Q} {i : Nat} (h : i < ks.length) : szL (ks.take i) + ks[i].sz ≤ szL ks := by
  have h1 := szL_app (ks.take (i + 1)) (ks.drop (i + 1))
  rw [List.take_append_drop, List.take_add_one, List.getElem?_eq_getElem h, Option.toList_some, szL_app] at h1
  simp only [szL] at h1
  omega
theorem flatK_len_le (tn : Bool) (K : Int) : ∀ (l : List Q), (flatK K (l.map (plQ tn))).length ≤ szL l
  | [] => by simp [flatK, szL]
  | k :: r => by
    rw [List.map_cons, flat_cons, List.length_append, szL]
    have h1 := flat1_len k tn K
    unfold flat1 at h1
    have h2 := flatK_len_le tn K r
    omega
theorem flatK_snoc (tn : Bool) (K : Int) {ks : List Q} {i : Nat} (h : i < ks.length) : flatK K ((ks.take (i + 1)).map (plQ tn)) = flatK K ((ks.take i).map (plQ tn)) ++ flat1 K (plQ tn ks[i]) := by
  rw [List.take_add_one, List.getElem?_eq_getElem h, Option.toList_some, List.map_append]
  simp [flatK, flat1]
theorem eachAdd_any (t : T) (ih : ∀ k ∈ t.ks, AddOk k) (B gl : Nat) (K : Int) (v : Value) (ts : List T) (w : World) (hj : joinB K = true) (hm : MT w B t) (hB : B ≤ gl) (hl : LotI w B gl K v ts) (hs : ts.length + szL (absL t.ks) ≤ top40) :
    Calls Tryz.prog 23 #[.slice t.kb t.ks.length t.kc, .func (.func 24) #[.pointer (some ⟨gl, 0, none⟩)] #[]] w fun e w' => e = .returned (.tuple #[]) ∧ ∃ v' ts', LotI w' B gl K v' ts' ∧ absL ts' = absL ts ++ flatK K ((absL t.ks).map (plQ false)) ∧ Below B w w' := by
  rw [MT_iff] at hm
  obtain ⟨_, _, hKs, hKb, hkm⟩ := hm
  refine (eachPlain_any gl t.kb t.kc t.ks (by have := hKs.n; omega) w (fun i W => ∃ v' ts', LotI W B gl K v' ts' ∧ absL ts' = absL ts ++ flatK K (((absL t.ks).take i).map (plQ false)) ∧ Below B w W) ⟨v, ts, hl, by simp [flatK], Below.refl _ _⟩ (fun i W h => ?_) (fun i hi W h => ?_)).mono fun e w' h => ?_
  · obtain ⟨v', ts', _, _, hb⟩ := h
    exact (hKb.keep hb).1
  · obtain ⟨v', ts', hl', ha', hb'⟩ := h
    have hal : i < (absL t.ks).length := by rw [absL_len]; exact hi
    have hb1 := below_new W (.cells (ta t.ks[i]) 29)
    have hlW := hl'.lot.lt
    have hbB : Below B w (W.alloc (.cells (ta t.ks[i]) 29)) := hb'.trans (hb1.mono (by omega))
    have hlen : ts'.length ≤ ts.length + szL ((absL t.ks).take i) := by
      have h1 := congrArg List.length ha'
      rw [absL_len, List.length_append, absL_len] at h1
      have h2 := flatK_len_le false K ((absL t.ks).take i)
      omega
    have hsz := sz_take hal
    rw [absL_get hi] at hsz
    refine (ih _ (List.getElem_mem hi) B gl K v' ts' _ hj ((hkm _ (List.getElem_mem hi)).keep hbB) hB (hl'.later hb1) (by omega)).mono fun e w' h => ?_
    obtain ⟨v2, ts2, rfl, hl2, ha2, hb2⟩ := h
    refine ⟨rfl, v2, ts2, hl2, ?_, hbB.trans hb2⟩
    rw [ha2, ha', flatK_snoc false K hal, absL_get hi, List.append_assoc]
  · obtain ⟨he, v', ts', hl', ha', hb'⟩ := h
    refine ⟨he, v', ts', hl', ?_, hb'⟩
    rw [ha', ← absL_len, List.take_length]
theorem eachAddT_any (t : T) (ih : ∀ k ∈ t.ks, AddTOk k) (B gl : Nat) (K : Int) (v : Value) (ts : List T) (w : World) (hj : joinB K = true) (hm : MT w B t) (hB : B ≤ gl) (hl : LotI w B gl K v ts) (hs : ts.length + szL (absL t.ks) ≤ top40) :
    Calls Tryz.prog 23 #[.slice t.kb t.ks.length t.kc, .func (.func 38) #[.pointer (some ⟨gl, 0, none⟩)] #[]] w fun e w' => e = .returned (.tuple #[]) ∧ ∃ v' ts', LotI w' B gl K v' ts' ∧ absL ts' = absL ts ++ flatK K ((absL t.ks).map (plQ true)) ∧ Below B w w' := by
  rw [MT_iff] at hm
  obtain ⟨_, _, hKs, hKb, hkm⟩ := hm
  refine (eachTurned_any gl t.kb t.kc t.ks (by have := hKs.n; omega) w (fun i W => ∃ v' ts', LotI W B gl K v' ts' ∧ absL ts' = absL ts ++ flatK K (((absL t.ks).take i).map (plQ true)) ∧ Below B w W) ⟨v, ts, hl, by simp [flatK], Below.refl _ _⟩ (fun i W h => ?_) (fun i hi W h => ?_)).mono fun e w' h => ?_
  · obtain ⟨v', ts', _, _, hb⟩ := h
    exact (hKb.keep hb).1
  · obtain ⟨v', ts', hl', ha', hb'⟩ := h
    have hal : i < (absL t.ks).length := by rw [absL_len]; exact hi
    have hb1 := below_new W (.cells (ta t.ks[i]) 29)
    have hlW := hl'.lot.lt
    have hbB : Below B w (W.alloc (.cells (ta t.ks[i]) 29)) := hb'.trans (hb1.mono (by omega))
    have hlen : ts'.length ≤ ts.length + szL ((absL t.ks).take i) := by
      have h1 := congrArg List.length ha'
      rw [absL_len, List.length_append, absL_len] at h1
      have h2 := flatK_len_le true K ((absL t.ks).take i)
      omega
    have hsz := sz_take hal
    rw [absL_get hi] at hsz
    refine (ih _ (List.getElem_mem hi) B gl K v' ts' _ hj ((hkm _ (List.getElem_mem hi)).keep hbB) hB (hl'.later hb1) (by omega)).mono fun e w' h => ?_
    obtain ⟨v2, ts2, rfl, hl2, ha2, hb2⟩ := h
    refine ⟨rfl, v2, ts2, hl2, ?_, hbB.trans hb2⟩
    rw [ha2, ha', flatK_snoc true K hal, absL_get hi, List.append_assoc]
  · obtain ⟨he, v', ts', hl', ha', hb'⟩ := h
    refine ⟨he, v', ts', hl', ?_, hb'⟩
    rw [ha', ← absL_len, List.take_length]
theorem oper_app {a : Act} {w : World} {K : Act → World → Prop} {Q : Exit → Act → World → Prop} {d : Option Nat} {s x : Operand} {t ty : TypeId} {pos : String} {aft : Array Edge} {gd : Option (Nat × Bool)}
    {v u v' : Value} {w' : World} (hs : a.eval s = v) (hx : a.eval x = u)
    (hr : (Builtin.append_ #[t, t] ty #[v, u]).run Tryz.prog w = .ok v' w') (h : K (a.put d v') w') :
    Oper.wp Tryz.prog { dst := d, op := .call { callee := .builtin .append, args := #[s, x], argTypes := #[t, t] }, type := ty, pos := pos, after := aft, guard := gd } a w K Q := by
  unfold Oper.wp execOp
  simp only [resolve, invoke, builtin, Sem.run_bind, Sem.run_pure, Result.andThen_ok, List.map_toArray, List.map_cons, List.map_nil, hs, hx, hr]
  exact h
end Go.Proofs.YthgnibphhiaecaaGreat
