/-
  8 texts in one. No statement of the seat is proved here.
-/
import Derived.Test.YtfknplcnfpincaaGreatG6
import Derived.MapKept
import Derived.DeepKeys3
import Derived.Laws.BytesArg
import Derived.Laws.IdiomStrings
import Derived.Lib.ConvBytes
import Derived.Laws.AppendOwn
/-
  Rows of regions that draw their order, whatever the types: loads of a cell and of whole structs, elements of a slice, a store of a struct or a call at the end. No condition; no statement of the seat is proved here.
-/
namespace Go.Proofs.YtfknplcnfpincaaGreat
open Go.RowKit

theorem ans_of {P : Program} {ops : Array Oper} {S : World → Prop} {o : Oper} {v : Value} {a : Act} (h : YieldsIf P ops S o v a) : Ans P ops S o v a := by
  rcases h with ⟨h1, h2⟩ | h
  · exact ans_plain h1 h2
  · exact Or.inr h
/-- A load of a struct, an array. -/
theorem ans_row {ops : Array Oper} {S : World → Prop} {oi : Oper} {a : Act} (ty : TypeId) (x : Operand) (d : TypeDesc) (n : Nat) (ho : oi.op = .load ty x) (hw : Region.wanted oi (yielded ops a.tmps) = true) (b o : Nat) (hx : a.eval x = .pointer (some ⟨b, o, none⟩)) (vs : List Value) (hv : ∀ w, S w → w.rangeAt b o vs)
    (hu : Tryz.prog.underlying ty = some d) (hd : d.isRow = true) (hn : vs.length = n) (hi : (Tryz.prog.info? ty).map (·.size) = some n) : Ans Tryz.prog ops S oi (.agg vs.toArray) a :=
  ans_of (yieldsIf_load_mid hw ty x ho b o hx vs d hv hu hd (by rw [hn]; exact hi))
/-- A store of a struct, an array into its own variable. -/
theorem opStR {ops : Array Oper} {Q : Exit → Act → World → Prop} (i : Nat) (ty : TypeId) (x y : Operand) (n : Nat) {oi : Oper} {K : Act → World → Prop} {a : Act} {w : World} (hi : ops[i]? = some oi) (hd : oi.dst = none) (ho : oi.op = .store ty x y) (hg : oi.guard = none) (g : Nat) (us vs : List Value) (t : TypeId) (hb : Blk w g us t) (hn : us.length = n) (hm : vs.length = n) (h1 : ∀ v ∈ vs, v.oneCell' = true) (hz : (Tryz.prog.info? ty).map (·.size) = some n)
    (hx : a.eval x = .pointer (some ⟨g, 0, none⟩)) (hy : a.eval y = .agg vs.toArray)
    (k : ∀ w', Blk w' g vs t → Kp (fun j => j = g) w w' → K a w') : wpOp Tryz.prog ops Q i K a w := by
  have hr := run_storeAt_mid (P := Tryz.prog) w g 0 ty vs.toArray (by rw [List.size_toArray, hm]; exact hb.there 0 n (by omega)) (by rw [List.size_toArray, hm]; exact hz) (all_oneCell_toArray h1)
  have hkp : Kp (fun j => j = g) w (w.setCells g 0 vs) := by
    have hh : ∀ (us : List Value) (w0 : World) (o : Nat), Kp (fun j => j = g) w0 (w0.setCells g o us) := by
      intro us
      induction us with
      | nil => intro w0 o; exact Kp.refl _ _
      | cons u us ih => intro w0 o; exact (Kp.of_grown (but_set w0 g o u)).trans (ih _ _)
    exact hh vs w 0
  have hK : Hid _ := k (w.setCells g 0 vs) (hb.setsW _ (by omega)) hkp
  clear k
  unfold wpOp
  simp only [hi]
  rw [if_pos (by simp [Region.wanted, hg])]
  left
  unfold Oper.wp
  simp [execOp, ho, hx, hy, hr, Result.andThen]
  simp only [Oper.upon, hd]
  exact hK.out
/-- A call, the last one. -/
theorem lastC {ops : Array Oper} {Q : Exit → Act → World → Prop} {md : Region.Mode} {S : World → Prop} (i : Nat) (d : Option Tmp) (f : FuncId) (args : Array Operand) (tys : Array TypeId) (vs : Array Value) {oi : Oper} {fuel : Nat} {listed : Array Bool} {a : Act} {w : World} (hi : ops[i]? = some oi) (hd : oi.dst = d)
    (ho : oi.op = .call { callee := .value (.func f), args := args, argTypes := tys }) (hw : Region.wanted oi (yielded ops a.tmps) = true) (hv : (args.toList.map a.eval).toArray = vs) (hr : Region.ready md ops listed = [i]) (he : listed.getD i true = false) (hl : (listed.setIfInBounds i true).getD i true = true) (hz : Region.ready md ops (listed.setIfInBounds i true) = []) (hc : ∀ vs w, (callFunc f vs).run Tryz.prog w = .ok (.enter f vs) w)
    (h : ∀ w', Grows w w' → S w' → Calls Tryz.prog f vs w' fun x w'' => ∃ v, x = .returned v ∧ ∀ w3, Grows w'' w3 → Q .normal (a.put d v) w3) : wpAnyE Tryz.prog md ops Q S i (fuel + 1) listed a w := by
  subst hd
  have hv' : args.map a.eval = vs := by rw [← hv]; apply Array.toList_inj.1; rw [Array.toList_map]
  subst hv'
  refine lastE hr he hl hz fun w' hg hS => ?_
  unfold wpOp
  simp only [hi]
  rw [if_pos hw]
  left
  unfold Oper.wp
  have hx : (execOp a.eval oi).run Tryz.prog w' = .ok (.enter f (args.map a.eval)) w' := by simp [execOp, ho, resolve, invoke, Act.eval, Deferred.ofValue, hc]
  rw [hx, Oper.upon_enter]
  refine (h w' hg hS).mono ?_
  rintro x w'' ⟨v, rfl, hh⟩
  exact hh

end Go.Proofs.YtfknplcnfpincaaGreat

/-
  Maps whose keys are structs of texts, whatever their values are: what a key has ('Mks'), a map made, asked and written. No condition; no statement of the seat is proved here.
-/
namespace Go.Proofs.YtfknplcnfpincaaGreat
open Go.RowKit
open Go.MapKept (run_setObj_map heap_set modify_keys)

/-- What is asked of keys. -/
structure KeyS {κ : Type} (K : TypeId) (kv : κ → Value) (ok : κ → Prop) : Prop where
  law : WideMaps.KeyLaw Tryz.prog K
  key : ∀ a, ok a → ∃ l, keyOf Tryz.prog K (kv a) = some l
  inj : ∀ a b, kv a = kv b → a = b
/-- Block m is a map: what key 'kv a' has is 'f a'. -/
def Mks {κ : Type} (kv : κ → Value) (ok : κ → Prop) (w : World) (m : Nat) (f : κ → Option Value) : Prop :=
  ∃ es clock, w.heap[m]? = some (.map es clock) ∧ (es.toList.map (·.key)).Nodup ∧ (∀ e ∈ es.toList, ∃ a, ok a ∧ e.key = kv a) ∧ ∀ a v, f a = some v ↔ ∃ e ∈ es.toList, e.key = kv a ∧ e.val = v
/-- Key a has v from now on. -/
def updK {κ : Type} [DecidableEq κ] (f : κ → Option Value) (a : κ) (v : Value) : κ → Option Value := fun b => if b = a then some v else f b

theorem Mks.lt {κ : Type} {kv : κ → Value} {ok : κ → Prop} {w : World} {m : Nat} {f : κ → Option Value} (h : Mks kv ok w m f) : m < w.heap.size := by
  obtain ⟨es, clock, hb, _⟩ := h
  exact (Array.getElem?_eq_some_iff.1 hb).1
theorem Mks.same {κ : Type} {kv : κ → Value} {ok : κ → Prop} {w w' : World} {m : Nat} {f : κ → Option Value} (h : Mks kv ok w m f) (e : w'.heap[m]? = w.heap[m]?) : Mks kv ok w' m f := by
  obtain ⟨es, clock, hb, h1⟩ := h
  exact ⟨es, clock, by rw [e]; exact hb, h1⟩
theorem Mks.new {κ : Type} (kv : κ → Value) (ok : κ → Prop) (w : World) : Mks kv ok (w.alloc (.map #[] 0)) w.heap.size (fun _ => none) := ⟨#[], 0, heap_alloc_new _ _, by simp, by simp, by simp⟩
theorem Mks.notCells {κ : Type} {kv : κ → Value} {ok : κ → Prop} {w : World} {m : Nat} {f : κ → Option Value} (h : Mks kv ok w m f) {g : Nat} {vs : List Value} {t : TypeId} (hb : Blk w g vs t) : g ≠ m := fun e => by
  obtain ⟨es, clock, hm, _⟩ := h
  unfold Blk at hb
  rw [e, hm] at hb
  cases hb
/-- Asked. -/
theorem Mks.look {κ : Type} {kv : κ → Value} {ok : κ → Prop} {w : World} {m : Nat} {f : κ → Option Value} (h : Mks kv ok w m f) {T K E : TypeId} (hK : KeyS K kv ok) (hm : Tryz.prog.underlying T = some (.map K E)) {z : Value} (hz : (zeroValue E).run Tryz.prog w = .ok z w) (a : κ) (ha : ok a) :
    (Instr.lookup T (.map (some m)) (kv a) true).run Tryz.prog w = .ok (.tuple #[(f a).getD z, .bool (f a).isSome]) w := by
  obtain ⟨es, clock, hb, h1, h2, h3⟩ := h
  obtain ⟨l, hl⟩ := hK.key a ha
  have hall : ∀ e ∈ es.toList, ∃ l, keyOf Tryz.prog K e.key = some l := fun e he => by
    obtain ⟨b, hb, hk⟩ := h2 e he
    rw [hk]
    exact hK.key b hb
  have hc := hK.law.check w es.isEmpty hl
  rcases hK.law.find w hl es.toList hall with ⟨g1, g2⟩ | ⟨j, e, g1, g2, g3⟩
  · have hn : f a = none := by
      cases hf : f a with
      | none => rfl
      | some v =>
        obtain ⟨e, he, hk, _⟩ := (h3 a v).1 hf
        exact absurd hk (g2 e he)
    rw [hn]
    simp [Instr.lookup, run_underlying hm, Go.MapKept.run_getObj_map hb, hc, g1, hz, Result.andThen]
  · have hs : f a = some e.val := (h3 a e.val).2 ⟨e, List.mem_of_getElem? g2, g3, rfl⟩
    rw [hs]
    simp [Instr.lookup, run_underlying hm, Go.MapKept.run_getObj_map hb, hc, g1, Result.andThen]
/-- Written. -/
theorem Mks.store {κ : Type} [DecidableEq κ] {kv : κ → Value} {ok : κ → Prop} {w : World} {m : Nat} {f : κ → Option Value} (h : Mks kv ok w m f) {T K E : TypeId} (hK : KeyS K kv ok) (hm : Tryz.prog.underlying T = some (.map K E)) (a : κ) (ha : ok a) (v : Value) :
    ∃ w', (Instr.mapUpdate T (.map (some m)) (kv a) v).run Tryz.prog w = .ok () w' ∧ Mks kv ok w' m (updK f a v) ∧ w.grownBy w' (some m) := by
  obtain ⟨es, clock, hb, h1, h2, h3⟩ := h
  obtain ⟨l, hl⟩ := hK.key a ha
  have hall : ∀ e ∈ es.toList, ∃ l, keyOf Tryz.prog K e.key = some l := fun e he => by
    obtain ⟨b, hb, hk⟩ := h2 e he
    rw [hk]
    exact hK.key b hb
  have hc := hK.law.check w false hl
  have hgrow : ∀ o, w.grownBy { w with heap := w.heap.setIfInBounds m o } (some m) := fun o => ⟨rfl, rfl, rfl, by simp, fun i hi hne => (heap_set hb).2 i (fun e => hne (by rw [e]))⟩
  rcases hK.law.find w hl es.toList hall with ⟨g1, g2⟩ | ⟨j, e, g1, g2, g3⟩
  · refine ⟨_, by simp [Instr.mapUpdate, run_underlying hm, Go.MapKept.run_getObj_map hb, hc, g1, run_setObj_map _ hb, Result.andThen]; rfl, ⟨_, _, (heap_set hb).1, ?_, ?_, ?_⟩, hgrow _⟩
    · rw [Array.toList_push, List.map_append, List.nodup_append]
      refine ⟨h1, by simp, fun x hx y hy => ?_⟩
      obtain ⟨e, he, rfl⟩ := List.mem_map.1 hx
      simp only [List.map_cons, List.map_nil, List.mem_singleton] at hy
      subst hy
      exact g2 e he
    · intro x hx
      simp only [Array.toList_push, List.mem_append, List.mem_singleton] at hx
      rcases hx with hx | rfl
      · exact h2 x hx
      · exact ⟨a, ha, rfl⟩
    · intro b u
      unfold updK
      simp only [Array.toList_push, List.mem_append, List.mem_singleton]
      by_cases hab : b = a
      · subst hab
        rw [if_pos rfl]
        constructor
        · intro hu
          exact ⟨_, Or.inr rfl, rfl, Option.some.inj hu⟩
        · rintro ⟨x, hx | rfl, hk, hv⟩
          · exact absurd hk (g2 x hx)
          · rw [← hv]
      · rw [if_neg hab, h3]
        constructor
        · rintro ⟨x, hx, hk⟩
          exact ⟨x, Or.inl hx, hk⟩
        · rintro ⟨x, hx | rfl, hk⟩
          · exact ⟨x, hx, hk⟩
          · exact absurd (hK.inj _ _ hk.1).symm hab
  · have hj : es[j]? = some e := by simpa using g2
    have hlt : j < es.toList.length := (List.getElem?_eq_some_iff.1 g2).1
    have e1 : (es.modify j fun e => { e with key := kv a, val := v }).toList = es.toList.set j { e with key := kv a, val := v } := by
      apply List.ext_getElem?
      intro i
      rw [Array.getElem?_toList, Array.getElem?_modify, List.getElem?_set]
      by_cases hij : j = i
      · subst hij
        rw [if_pos rfl, if_pos rfl, if_pos hlt, hj]
        rfl
      · rw [if_neg hij, if_neg hij, Array.getElem?_toList]
    have hkeys : (es.modify j fun e => { e with key := kv a, val := v }).toList.map (·.key) = es.toList.map (·.key) := modify_keys _ _ fun e' he' => by
      rw [hj] at he'
      cases he'
      exact g3.symm
    refine ⟨_, by simp [Instr.mapUpdate, run_underlying hm, Go.MapKept.run_getObj_map hb, hc, g1, hj, g3, hK.law.stays w hl, run_setObj_map _ hb, Result.andThen]; rfl, ⟨_, _, (heap_set hb).1, ?_, ?_, ?_⟩, hgrow _⟩
    · rw [hkeys]
      exact h1
    · intro x hx
      have : x.key ∈ es.toList.map (·.key) := by rw [← hkeys]; exact List.mem_map.2 ⟨x, hx, rfl⟩
      obtain ⟨y, hy, he⟩ := List.mem_map.1 this
      rw [← he]
      exact h2 y hy
    · intro b u
      have hge : es.toList[j] = e := (List.getElem?_eq_some_iff.1 g2).2
      have hd : es.toList = es.toList.take j ++ e :: es.toList.drop (j + 1) := by
        rw [← hge, List.getElem_cons_drop hlt, List.take_append_drop]
      rw [e1, List.set_eq_take_append_cons_drop, if_pos hlt]
      rw [hd, List.map_append, List.map_cons, List.nodup_append, List.nodup_cons] at h1
      obtain ⟨_, ⟨n2, _⟩, n1⟩ := h1
      have k1 : ∀ x ∈ es.toList.take j, x.key ≠ kv a := fun x hx hk => n1 x.key (List.mem_map.2 ⟨x, hx, rfl⟩) e.key (by simp) (by rw [hk, g3])
      have k2 : ∀ x ∈ es.toList.drop (j + 1), x.key ≠ kv a := fun x hx hk => n2 (by rw [g3, ← hk]; exact List.mem_map.2 ⟨x, hx, rfl⟩)
      unfold updK
      rw [hd] at h3
      generalize es.toList.take j = X at *
      generalize es.toList.drop (j + 1) = Y at *
      simp only [List.mem_append, List.mem_cons]
      by_cases hab : b = a
      · subst hab
        rw [if_pos rfl]
        constructor
        · intro hu
          exact ⟨_, Or.inr (Or.inl rfl), rfl, Option.some.inj hu⟩
        · rintro ⟨x, hx | rfl | hx, hk, hv⟩
          · exact absurd hk (k1 x hx)
          · rw [← hv]
          · exact absurd hk (k2 x hx)
      · rw [if_neg hab, h3]
        simp only [List.mem_append, List.mem_cons]
        constructor
        · rintro ⟨x, hx | rfl | hx, hk⟩
          · exact ⟨x, Or.inl hx, hk⟩
          · rw [g3] at hk
            exact absurd (hK.inj _ _ hk.1).symm hab
          · exact ⟨x, Or.inr (Or.inr hx), hk⟩
        · rintro ⟨x, hx | rfl | hx, hk⟩
          · exact ⟨x, Or.inl hx, hk⟩
          · exact absurd (hK.inj _ _ hk.1).symm hab
          · exact ⟨x, Or.inr (Or.inr hx), hk⟩

end Go.Proofs.YtfknplcnfpincaaGreat

/-
  'string(b)' of bytes of the call's own. No condition; no statement of the seat is proved here.
-/
namespace Go.Proofs.YtfknplcnfpincaaGreat
open Go.RowKit

theorem Own.shape {w : World} {base : Nat} {v : Value} {l : List UInt8} (h : Own w base v l) : ∃ a m c, v = .slice a m c ∧ (a = none ∨ ∃ g, a = some ⟨g, 0, none⟩) := by
  obtain ⟨_, h2⟩ := h
  rcases h2 with ⟨rfl, _⟩ | ⟨g, cap, cur, rfl, _⟩
  · exact ⟨none, 0, 0, rfl, Or.inl rfl⟩
  · exact ⟨_, _, cap, rfl, Or.inr ⟨g, rfl⟩⟩

/-- 'string(b)' of bytes of the call's own. -/
theorem Own.str {w : World} {base : Nat} {a : Option Addr} {m c : Nat} {l : List UInt8} (h : Own w base (.slice a m c) l) : Sem.run Tryz.prog (convert 22 9 (.slice a m c)) w = .ok (.string ⟨l.toArray⟩) w := by
  have hb := h.toBs
  obtain ⟨a', m', c', e, hs⟩ := h.shape
  simp only [Value.slice.injEq] at e
  obtain ⟨rfl, rfl, rfl⟩ := e
  rcases hs with rfl | ⟨g, rfl⟩
  · have hc := hb.2.2.2.1 rfl
    have hcap := hb.cap
    have e : l = [] := List.length_eq_zero_iff.1 (by rw [hb.len]; omega)
    subst e
    rw [run_convert_bytes_nil w 22 5 Tryz.underlying22 Tryz.underlying5 m c 9 Tryz.underlying9]
    rfl
  · rw [run_convert_bytes_arg w 22 5 Tryz.underlying22 Tryz.underlying5 g 0 m c (l.map fun x => (x.toNat : Int)) (by simp [hb.len]) ?_ 9 Tryz.underlying9]
    · have e : strOfNums (l.map fun x => (x.toNat : Int)) = ⟨l.toArray⟩ := by
        unfold strOfNums
        simp [Function.comp_def]
      rw [e]
    · intro i hi
      obtain ⟨b, o, ha, hc⟩ := hb.2.2.2.2 i hi
      simp at ha
      obtain ⟨rfl, rfl⟩ := ha
      rw [hc]
      have hi' : i < l.length := by rw [hb.len]; exact hi
      rw [bt_of_lt hi']
      simp [List.getD_eq_getElem?_getD, hi']
theorem ret_str {A B : List UInt8} (h : A = B) : Ending.returned (.string ⟨A.toArray⟩) = .returned (.string ⟨B.toArray⟩) := by rw [h]

end Go.Proofs.YtfknplcnfpincaaGreat

/-
  Bytes as a text and a text as bytes: 'string(b)' of whatever bytes, '[]byte(s)' of whatever text. No condition; no statement of the seat is proved here.
-/
namespace Go.Proofs.YtfknplcnfpincaaGreat
open Go.RowKit

/-- Bytes as a text. -/
def sv (l : List UInt8) : Value := .string ⟨l.toArray⟩
theorem sv_inj {l m : List UInt8} (h : sv l = sv m) : l = m := by
  simp only [sv, Value.string.injEq, ByteArray.mk.injEq] at h
  simpa using h
/-- 'string(b)'. -/
theorem Bs.str {w : World} {a : Option Addr} {m c : Nat} {l : List UInt8} (h : Bs w a m c l) : Sem.run Tryz.prog (convert 22 9 (.slice a m c)) w = .ok (sv l) w := by
  have hl := h.len
  by_cases h0 : m = 0
  · subst h0
    have e : l = [] := List.length_eq_zero_iff.1 hl
    subst e
    rw [run_convert_bytes_string w 22 9 5 a 0 c Tryz.underlying22 Tryz.underlying5 Tryz.underlying9]
    cases a <;> simp [Conv.bytesToString, sv, loadCells] <;> rfl
  · obtain ⟨b, o, rfl, _, hc⟩ := h.at (by omega)
    rw [run_convert_bytes_arg w 22 5 Tryz.underlying22 Tryz.underlying5 b o m c (l.map fun x => (x.toNat : Int)) (by simp [hl]) ?_ 9 Tryz.underlying9]
    · have e : strOfNums (l.map fun x => (x.toNat : Int)) = ⟨l.toArray⟩ := by
        unfold strOfNums
        simp [Function.comp_def]
      rw [e]
      rfl
    · intro i hi
      rw [hc i hi]
      have hi' : i < l.length := by rw [hl]; exact hi
      rw [bt_of_lt hi']
      simp [List.getD_eq_getElem?_getD, hi']
/-- '[]byte(s)'. -/
theorem str_bytes (w : World) (l : List UInt8) (hl : l.length ≤ 1000000) : ∃ c w', Sem.run Tryz.prog (convert 9 22 (sv l)) w = .ok (.slice (some ⟨w.heap.size, 0, none⟩) l.length c) w' ∧ Bs w' (some ⟨w.heap.size, 0, none⟩) l.length c l ∧ w.heap.size < w'.heap.size ∧ Below w.heap.size w w' := by
  have hs : (ByteArray.mk l.toArray).size = l.length := by simp [ByteArray.size]
  refine ⟨grownCap w l.length 0 5, Lib.bytesWorld w 5 ⟨l.toArray⟩, ?_, ⟨rfl, grownCap_ge _ _ _ _, grownCap_le_maxLen _ _ _ _ (by unfold maxLen; omega), fun h => by simp at h, fun i hi => ⟨w.heap.size, 0, rfl, ?_⟩⟩, ?_, ?_⟩
  · have := Lib.run_convert_string_bytes (P := Tryz.prog) w 9 22 5 ⟨l.toArray⟩ Tryz.underlying9 Tryz.underlying22 Tryz.underlying5
    rw [hs] at this
    exact this
  · rw [Nat.zero_add, Lib.bytesWorld_cell w 5 ⟨l.toArray⟩ i (by rw [hs]; exact hi)]
    rfl
  · rw [Lib.bytesWorld_size]
    exact Nat.lt_succ_self _
  · refine ⟨rfl, rfl, rfl, by rw [Lib.bytesWorld_size]; omega, fun k hk => Lib.bytesWorld_at_old w 5 _ k hk⟩

end Go.Proofs.YtfknplcnfpincaaGreat

/-
  Layer 12's program's sealer in memory ('Se'): its struct, its maps, its tables; keys of the three maps. No condition; no statement of the seat is proved here.
-/
namespace Go.Proofs.YtfknplcnfpincaaGreat
open Go.RowKit

abbrev KeyP := List UInt8 × List UInt8
abbrev KeyO := List UInt8 × List UInt8 × List UInt8 × List UInt8
def kvP (p : KeyP) : Value := .agg #[sv p.1, sv p.2]
def kvO (o : KeyO) : Value := .agg #[sv o.1, sv o.2.1, sv o.2.2.1, sv o.2.2.2]
/-- What is sealed, as a value. -/
def ctv (b t : List UInt8) : Value := .agg #[sv b, sv t]
def fitW (l : List UInt8) : Prop := l.length ≤ 1000000
def okKP (p : KeyP) : Prop := fitW p.1 ∧ fitW p.2
def okKO (o : KeyO) : Prop := fitW o.1 ∧ fitW o.2.1 ∧ fitW o.2.2.1 ∧ fitW o.2.2.2
theorem fitW.size {l : List UInt8} (h : fitW l) : (ByteArray.mk l.toArray).size ≤ maxLen := by
  unfold fitW at h
  have : (ByteArray.mk l.toArray).size = l.length := by simp [ByteArray.size]
  rw [this]
  unfold maxLen
  omega
theorem types_size : ∃ n, Tryz.prog.types.size + 1 = n + 3 := ⟨Tryz.prog.types.size - 2, by have : 2 ≤ Tryz.prog.types.size := of_decide_eq_true (by kernel_rfl); omega⟩
theorem cells9 : Tryz.prog.cellsOf 9 = 1 := by kernel_rfl
theorem cellsP : Tryz.prog.cellsOf 78 = 2 := by kernel_rfl
theorem cellsEn : Tryz.prog.cellsOf 175 = 2 := by kernel_rfl
theorem cellsO : Tryz.prog.cellsOf 95 = 4 := by kernel_rfl
theorem ktP : Tryz.prog.keyType 78 = true := by kernel_rfl
theorem ktE : Tryz.prog.keyType 175 = true := by kernel_rfl
theorem ktO : Tryz.prog.keyType 95 = true := by kernel_rfl
theorem keysP : KeyS 78 kvP okKP where
  law := deep_law (m := 3) (by omega) (by kernel_rfl) (by kernel_rfl) (by kernel_rfl)
  key := fun a ha => by
    obtain ⟨n, hn⟩ := types_size
    have h1 := ha.1.size
    have h2 := ha.2.size
    refine Option.isSome_iff_exists.1 ?_
    unfold keyOf
    rw [Tryz.underlying78, hn]
    simp [ktP, kvP, sv, Value.formed, Tryz.underlying78, cellsP, cells9, Program.keyLits, Value.cells, Tryz.underlying9, h1, h2]
  inj := fun a b h => by
    simp only [kvP, Value.agg.injEq, Array.mk.injEq, List.cons.injEq, and_true] at h
    exact Prod.ext (sv_inj h.1) (sv_inj h.2)
theorem keysE : KeyS 175 kvP okKP where
  law := deep_law (m := 3) (by omega) (by kernel_rfl) (by kernel_rfl) (by kernel_rfl)
  key := fun a ha => by
    obtain ⟨n, hn⟩ := types_size
    have h1 := ha.1.size
    have h2 := ha.2.size
    refine Option.isSome_iff_exists.1 ?_
    unfold keyOf
    rw [Tryz.underlying175, hn]
    simp [ktE, kvP, sv, Value.formed, Tryz.underlying175, cellsEn, cells9, Program.keyLits, Value.cells, Tryz.underlying9, h1, h2]
  inj := keysP.inj
theorem keysO : KeyS 95 kvO okKO where
  law := deep_law (m := 4) (by omega) (by kernel_rfl) (by kernel_rfl) (by kernel_rfl)
  key := fun a ha => by
    obtain ⟨n, hn⟩ := types_size
    have h1 := ha.1.size
    have h2 := ha.2.1.size
    have h3 := ha.2.2.1.size
    have h4 := ha.2.2.2.size
    refine Option.isSome_iff_exists.1 ?_
    unfold keyOf
    rw [Tryz.underlying95, hn]
    simp [ktO, kvO, sv, Value.formed, Tryz.underlying95, Tryz.underlying78, cellsP, cellsO, cells9, Program.keyLits, Value.cells, Tryz.underlying9, h1, h2, h3, h4]
    rw [if_pos (by
      intro i hi
      match i, hi with
      | 0, _ => simp
      | 1, _ => simp)]
    rfl
  inj := fun a b h => by
    simp only [kvO, Value.agg.injEq, Array.mk.injEq, List.cons.injEq, and_true] at h
    exact Prod.ext (sv_inj h.1) (Prod.ext (sv_inj h.2.1) (Prod.ext (sv_inj h.2.2.1) (sv_inj h.2.2.2)))

/-- Where a sealer's parts lie: the map of first things, that of openings, the tables, the map of keys. -/
structure SeaM where
  m1 : Nat
  m2 : Nat
  tb : Option Addr
  ks : Option Nat
def seC (S : SeaS) (M : SeaM) : List Value := [.bool S.ideal, .pointer M.tb, .int .i64 (S.book.length : Int), .map (some M.m1), .map (some M.m2), .bool S.reused, .bool S.forged, .int .u64 (S.count : Int), .map M.ks]
def fstK (S : SeaS) : KeyP → Option Value := fun p => (S.first p.1 p.2).map fun e => ctv e.beside e.text
def kidK (S : SeaS) : KeyP → Option Value := fun p => (S.kid p.1 p.2).map fun c => .int .u64 (c.num : Int)
/-- What an opening has in the map: something just if it stands in the book; ideally the text of the first thing. -/
def TxtK (S : SeaS) (g : KeyO → Option Value) : Prop := ∀ o : KeyO, match S.known o.1 o.2.1 o.2.2.1 o.2.2.2 with
  | none => g o = none
  | some t => ∃ t', g o = some (ctv o.2.2.1 t') ∧ fitW t' ∧ (S.ideal = true → t' = t)
/-- The sealer in block r; all its blocks are in U. -/
structure Se (U : Nat → Prop) (w : World) (r : Nat) (S : SeaS) (M : SeaM) : Prop where
  lt : ∀ j, U j → j < w.heap.size
  inR : U r
  blk : Blk w r (seC S M) 60
  in1 : U M.m1
  in2 : U M.m2
  ne12 : M.m1 ≠ M.m2
  first : Mks kvP okKP w M.m1 (fstK S)
  texts : ∃ g, Mks kvO okKO w M.m2 g ∧ TxtK S g
  keys : S.ideal = true → ∃ m3, M.ks = some m3 ∧ U m3 ∧ m3 ≠ M.m1 ∧ m3 ≠ M.m2 ∧ Mks kvP okKP w m3 (kidK S)
  tab : S.ideal = false → ∃ g, M.tb = some ⟨g, 0, none⟩ ∧ U g ∧ Blk w g (cs tabT) 73
  bound : S.count + S.book.length ≤ 1000000

theorem Blk.same {w w' : World} {g : Nat} {vs : List Value} {t : TypeId} (h : Blk w g vs t) (e : w'.heap[g]? = w.heap[g]?) : Blk w' g vs t := by
  unfold Blk
  rw [e]
  exact h
/-- What is not the sealer's was written. -/
theorem Se.keep {U : Nat → Prop} {w w' : World} {r : Nat} {S : SeaS} {M : SeaM} (h : Se U w r S M) (hs : w.heap.size ≤ w'.heap.size) (hk : ∀ j, U j → w'.heap[j]? = w.heap[j]?) : Se U w' r S M := by
  refine ⟨fun j hj => Nat.lt_of_lt_of_le (h.lt j hj) hs, h.inR, h.blk.same (hk r h.inR), h.in1, h.in2, h.ne12, h.first.same (hk _ h.in1), ?_, fun hi => ?_, fun hi => ?_, h.bound⟩
  · obtain ⟨g, h1, h2⟩ := h.texts
    exact ⟨g, h1.same (hk _ h.in2), h2⟩
  · obtain ⟨m3, h1, h2, h3, h4, h5⟩ := h.keys hi
    exact ⟨m3, h1, h2, h3, h4, h5.same (hk _ h2)⟩
  · obtain ⟨g, h1, h2, h3⟩ := h.tab hi
    exact ⟨g, h1, h2, h3.same (hk _ h2)⟩
theorem Se.grow {U : Nat → Prop} {w w' : World} {r : Nat} {S : SeaS} {M : SeaM} (h : Se U w r S M) (hb : Below w.heap.size w w') : Se U w' r S M := h.keep hb.size fun j hj => hb.block j (h.lt j hj)
theorem Se.kp {U F : Nat → Prop} {w w' : World} {r : Nat} {S : SeaS} {M : SeaM} (h : Se U w r S M) (k : Kp F w w') (hF : ∀ j, U j → ¬ F j) : Se U w' r S M := h.keep k.size fun j hj => k.block j (h.lt j hj) (hF j hj)
/-- The struct alone was written: a field of it. -/
theorem Se.put {U : Nat → Prop} {w w' : World} {r : Nat} {S S' : SeaS} {M : SeaM} (h : Se U w r S M) (k : Kp (fun j => j = r) w w') (hb : Blk w' r (seC S' M) 60) (hi : S'.ideal = S.ideal) (hbk : S'.book = S.book) (hkd : S'.kids = S.kids) (hn : S'.count + S'.book.length ≤ 1000000) : Se U w' r S' M := by
  have hf : fstK S' = fstK S := by unfold fstK SeaS.first; rw [hbk]
  have hkk : kidK S' = kidK S := by unfold kidK SeaS.kid; rw [hkd]
  refine ⟨fun j hj => Nat.lt_of_lt_of_le (h.lt j hj) k.size, h.inR, hb, h.in1, h.in2, h.ne12, ?_, ?_, fun hi' => ?_, fun hi' => ?_, hn⟩
  · rw [hf]
    exact h.first.same (k.block _ h.first.lt (h.first.notCells h.blk).symm)
  · obtain ⟨g, h1, h2⟩ := h.texts
    refine ⟨g, h1.same (k.block _ h1.lt (h1.notCells h.blk).symm), ?_⟩
    unfold TxtK SeaS.known at h2 ⊢
    rw [hbk, hi]
    exact h2
  · obtain ⟨m3, h1, h2, h3, h4, h5⟩ := h.keys (hi ▸ hi')
    exact ⟨m3, h1, h2, h3, h4, by rw [hkk]; exact h5.same (k.block _ h5.lt (h5.notCells h.blk).symm)⟩
  · obtain ⟨g, h1, h2, h3⟩ := h.tab (hi ▸ hi')
    refine ⟨g, h1, h2, k.blk h3 fun e => ?_⟩
    rw [e] at h3
    have h4 := h.blk
    unfold Blk at h3 h4
    rw [h4] at h3
    simp only [Option.some.injEq, Obj.cells.injEq] at h3
    exact absurd h3.2.1 (by decide)

end Go.Proofs.YtfknplcnfpincaaGreat

/-
  Regions that draw their order and end in an operation, number e, that writes what they read, where e waits for the others by a chain of operations. No condition; no statement of the seat is proved here.
-/
namespace Go.Proofs.YtfknplcnfpincaaGreat
open Go.RowKit

/-- Number e waits for number i, by a chain of at most so many operations. -/
def reach (md : Region.Mode) (ops : Array Oper) : Nat → Nat → Nat → Bool
  | 0, _, _ => false
  | n + 1, e, i => match ops[e]? with
    | some oe => oe.after.any fun x => Region.binds md x && (x.on == i || reach md ops n x.on i)
    | none => false
/-- What is listed is so with all that it waits for. -/
def closed (md : Region.Mode) (ops : Array Oper) (listed : Array Bool) : Prop := ∀ (j : Nat) (o : Oper), ops[j]? = some o → listed.getD j false = true → ∀ x ∈ o.after, Region.binds md x = true → listed.getD x.on false = true
def closedB (md : Region.Mode) (ops : Array Oper) (listed : Array Bool) : Bool := (List.range ops.size).all fun j => !listed.getD j false || (match ops[j]? with | some o => o.after.all (fun x => !Region.binds md x || listed.getD x.on false) | none => true)
theorem closed_of {md : Region.Mode} {ops : Array Oper} {listed : Array Bool} (h : closedB md ops listed = true) : closed md ops listed := by
  intro j o ho hl x hx hb
  unfold closedB at h
  rw [List.all_eq_true] at h
  have hj : j < ops.size := (Array.getElem?_eq_some_iff.1 ho).1
  have := h j (List.mem_range.2 hj)
  rw [ho, hl] at this
  simp only [Bool.not_true, Bool.false_or, Array.all_eq_true'] at this
  have := this x hx
  rw [hb] at this
  simpa using this
theorem closed_set {md : Region.Mode} {ops : Array Oper} {listed : Array Bool} (h : closed md ops listed) {j : Nat} (hj : j ∈ Region.ready md ops listed) : closed md ops (listed.setIfInBounds j true) := by
  intro k o ho hl x hx hb
  by_cases e : j = k
  · subst e
    obtain ⟨_, oj, hoj, hall⟩ := mem_ready.1 hj
    rw [hoj] at ho
    obtain rfl := Option.some.inj ho
    exact getD_set_true (hall x hx hb)
  · rw [getD_set_ne false e] at hl
    exact getD_set_true (h k o ho hl x hx hb)
theorem reach_listed {md : Region.Mode} {ops : Array Oper} {listed : Array Bool} (h : closed md ops listed) {i : Nat} : ∀ (n e : Nat), (∀ oe, ops[e]? = some oe → ∀ x ∈ oe.after, Region.binds md x = true → listed.getD x.on false = true) → reach md ops n e i = true → listed.getD i false = true
  | 0, _, _, hr => by cases hr
  | n + 1, e, he, hr => by
    unfold reach at hr
    cases ho : ops[e]? with
    | none => rw [ho] at hr; cases hr
    | some oe =>
      rw [ho] at hr
      simp only [Array.any_eq_true'] at hr
      obtain ⟨x, hx, hb⟩ := hr
      rw [Bool.and_eq_true, Bool.or_eq_true] at hb
      have hxl := he oe ho x hx hb.1
      rcases hb.2 with e1 | e1
      · have : x.on = i := by simpa using e1
        rw [← this]
        exact hxl
      · exact reach_listed h n x.on (fun o2 ho2 => h x.on o2 ho2 hxl) e1
/-- e is not ready as long as i is not listed. -/
theorem reach_not {md : Region.Mode} {ops : Array Oper} {listed : Array Bool} (h : closed md ops listed) {i n e : Nat} (hr : reach md ops n e i = true) (hi : listed.getD i true = false) : e ∉ Region.ready md ops listed := fun hm => by
  obtain ⟨_, oe, hoe, hall⟩ := mem_ready.1 hm
  have := reach_listed h n e (fun o ho x hx hb => by rw [hoe] at ho; obtain rfl := Option.some.inj ho; exact hall x hx hb) hr
  rcases Nat.lt_or_ge i listed.size with hl | hl
  · simp [hl] at hi this
    rw [hi] at this
    cases this
  · simp [Array.getElem?_eq_none hl] at this

theorem firstT {P : Program} {ops : Array Oper} {Q : Exit → Act → World → Prop} {md : Region.Mode} {S : World → Prop} {e i n : Nat} {oi : Oper} {v : Value} (hi : ops[i]? = some oi) (hsel : ∀ (j : Nat) (o : Oper) cs b, ops[j]? = some o → o.op ≠ .select cs b) (hQ : ∀ c a w, Q (.panic c) (a.put oi.dst v) w → Q (.panic c) a w) (hie : i ≠ e) (hre : reach md ops n e i = true) :
    ∀ (fuel : Nat) (listed : Array Bool) (a : Act) (w : World), listed.getD e true = false → closed md ops listed →
      (∀ j oj, ops[j]? = some oj → j ≠ i → listed.getD j true = false → (∀ e ∈ oj.after, Region.binds md e = true → e.on ≠ i) → oi.apart ops oj = true) →
      i ∈ Region.ready md ops listed → Ans P ops S oi v a → wpAnyE P md ops Q S e fuel (listed.setIfInBounds i true) (a.put oi.dst v) w → wpAnyE P md ops Q S e (fuel + 1) listed a w := by
  intro fuel
  induction fuel with
  | zero =>
    intro listed a w he _ _ hr hy H w' hg hS
    refine ⟨fun h => (by rw [h] at hr; cases hr), fun j hj => ?_⟩
    by_cases c : j = i
    · rw [c]
      exact hy.op hi (hS.got he) fun w'' hg' hs => ⟨Or.inr hs, H.1, fun w3 h3 hs3 => H.2 w3 (hg.trans (hg'.trans h3)) hs3⟩
    · have := ready_mono hj c
      rw [H.1] at this
      cases this
  | succ fuel ih =>
    intro listed a w he hcl hfree hr hy H w' hg hS
    refine ⟨fun h => (by rw [h] at hr; cases hr), fun j hj => ?_⟩
    by_cases c : j = i
    · rw [c]
      exact hy.op hi (hS.got he) fun w'' hg' hs => ⟨Or.inr hs, wpAnyE.grow H (hg.trans hg')⟩
    · obtain ⟨hun, oj, hoj, hall⟩ := mem_ready.1 hj
      have hno : ∀ e ∈ oj.after, Region.binds md e = true → e.on ≠ i := fun x hx hb hxi => by
        have h1 := hall x hx hb
        have h0 := (mem_ready.1 hr).1
        rw [hxi] at h1
        rcases Nat.lt_or_ge i listed.size with hl | hl
        · simp [hl] at h0 h1
          rw [h0] at h1
          cases h1
        · simp [Array.getElem?_eq_none hl] at h1
      have hje : j ≠ e := fun q => by
        subst q
        exact reach_not hcl hre (mem_ready.1 hr).1 hj
      have hei : (listed.setIfInBounds i true).getD e true = false := by rw [getD_set_ne true hie]; exact he
      have hej : (listed.setIfInBounds j true).getD e true = false := by rw [getD_set_ne true hje]; exact he
      have hk := other_first hoj (hfree j oj hoj c hun hno) (fun cs b => hsel i oi cs b hi) (fun cs b => hsel j oj cs b hoj) hQ ((H w' hg (Or.inr (hS.got he))).2 j (ready_mono hj c))
      refine wpOp_mono (fun a' w'' hh => ⟨Or.inr (hh.2.1.got (by rw [getD_set_ne true hje]; exact hei)), ih (listed.setIfInBounds j true) a' w'' hej (closed_set hcl hj) ?_ (ready_mono hr (Ne.symm c)) (hy.same hh.1) ?_⟩) hk
      · intro k ok hk hki hun' hno'
        refine hfree k ok hk hki ?_ hno'
        by_cases hjk : j = k
        · rw [← hjk]; exact hun
        · rw [getD_set_ne true hjk] at hun'; exact hun'
      · rw [Array.setIfInBounds_comm _ _ c]
        exact hh.2.2
/-- What is asked of number i, all at once. -/
def okT (md : Region.Mode) (ops : Array Oper) (e i : Nat) (listed : Array Bool) : Bool :=
  Region.noSelect ops && Region.free md ops listed i && (Region.ready md ops listed).contains i && reach md ops ops.size e i && (i != e) && closedB md ops listed && !listed.getD e true
/-- Take number i first. -/
theorem takeT {P : Program} {ops : Array Oper} {Q : Exit → Act → World → Prop} {md : Region.Mode} {S : World → Prop} {e : Nat} (i : Nat) (d : Option Tmp) (v : Value) {oi : Oper} {fuel : Nat} {listed : Array Bool} {a : Act} {w : World} (hi : ops[i]? = some oi) (hd : oi.dst = d) (ht : okT md ops e i listed = true)
    (hQ : ∀ c a w, Q (.panic c) (a.put d v) w → Q (.panic c) a w) (hy : Ans P ops S oi v a)
    (h : wpAnyE P md ops Q S e fuel (listed.setIfInBounds i true) (a.put d v) w) : wpAnyE P md ops Q S e (fuel + 1) listed a w := by
  subst hd
  unfold okT at ht
  simp only [Bool.and_eq_true] at ht
  obtain ⟨⟨⟨⟨⟨⟨h1, h2⟩, h3⟩, h4⟩, h5⟩, h6⟩, h7⟩ := ht
  exact firstT hi (Region.noSelect_spec h1) hQ (by simpa using h5) h4 fuel listed a w (by simpa using h7) (closed_of h6) (Region.free_spec hi h2) (by simpa using h3) hy h

/-- It answers v in whatever world, and leaves it. -/
def Pure (P : Program) (ops : Array Oper) (o : Oper) (v : Value) (a : Act) : Prop :=
  (Region.wanted o (yielded ops a.tmps) = true ∧ ∀ w, (execOp a.eval o).run P w = .ok (.value v) w) ∨ (Region.wanted o (yielded ops a.tmps) = false ∧ v = undef)
theorem Pure.same {P : Program} {ops : Array Oper} {o : Oper} {v : Value} {a b : Act} (h : Pure P ops o v a) (he : execOp b.eval o = execOp a.eval o ∧ Region.wanted o (yielded ops b.tmps) = Region.wanted o (yielded ops a.tmps)) : Pure P ops o v b := by
  unfold Pure at *
  rw [he.1, he.2]
  exact h
theorem Pure.op {P : Program} {ops : Array Oper} {Q : Exit → Act → World → Prop} {i : Nat} {o : Oper} {v : Value} {a : Act} (hi : ops[i]? = some o) (h : Pure P ops o v a) {K : Act → World → Prop} {w : World} (k : K (a.put o.dst v) w) : wpOp P ops Q i K a w := by
  unfold wpOp
  simp only [hi]
  rcases h with ⟨hw, hv⟩ | ⟨hw, rfl⟩
  · simp only [hw, if_true]
    left
    unfold Oper.wp
    rw [hv w]
    exact k
  · simp only [hw, Bool.false_eq_true, if_false]
    exact k
theorem okE.set {S : World → Prop} {e i : Nat} {listed : Array Bool} {w : World} (hie : i ≠ e) : okE S e (listed.setIfInBounds i true) w ↔ okE S e listed w := by
  unfold okE
  rw [getD_set_ne true hie]
theorem firstP {P : Program} {ops : Array Oper} {Q : Exit → Act → World → Prop} {md : Region.Mode} {S : World → Prop} {e i : Nat} {oi : Oper} {v : Value} (hi : ops[i]? = some oi) (hsel : ∀ (j : Nat) (o : Oper) cs b, ops[j]? = some o → o.op ≠ .select cs b) (hQ : ∀ c a w, Q (.panic c) (a.put oi.dst v) w → Q (.panic c) a w) (hie : i ≠ e) :
    ∀ (fuel : Nat) (listed : Array Bool) (a : Act) (w : World),
      (∀ j oj, ops[j]? = some oj → j ≠ i → listed.getD j true = false → (∀ e ∈ oj.after, Region.binds md e = true → e.on ≠ i) → oi.apart ops oj = true) →
      i ∈ Region.ready md ops listed → Pure P ops oi v a → wpAnyE P md ops Q S e fuel (listed.setIfInBounds i true) (a.put oi.dst v) w → wpAnyE P md ops Q S e (fuel + 1) listed a w := by
  intro fuel
  induction fuel with
  | zero =>
    intro listed a w _ hr hy H w' hg hS
    refine ⟨fun h => (by rw [h] at hr; cases hr), fun j hj => ?_⟩
    by_cases c : j = i
    · rw [c]
      exact hy.op hi ⟨(okE.set hie).2 hS, H.1, fun w3 h3 hs3 => H.2 w3 (hg.trans h3) hs3⟩
    · have := ready_mono hj c
      rw [H.1] at this
      cases this
  | succ fuel ih =>
    intro listed a w hfree hr hy H w' hg hS
    refine ⟨fun h => (by rw [h] at hr; cases hr), fun j hj => ?_⟩
    by_cases c : j = i
    · rw [c]
      exact hy.op hi ⟨(okE.set hie).2 hS, wpAnyE.grow H hg⟩
    · obtain ⟨hun, oj, hoj, hall⟩ := mem_ready.1 hj
      have hno : ∀ e ∈ oj.after, Region.binds md e = true → e.on ≠ i := fun x hx hb hxi => by
        have h1 := hall x hx hb
        have h0 := (mem_ready.1 hr).1
        rw [hxi] at h1
        rcases Nat.lt_or_ge i listed.size with hl | hl
        · simp [hl] at h0 h1
          rw [h0] at h1
          cases h1
        · simp [Array.getElem?_eq_none hl] at h1
      have hk := other_first hoj (hfree j oj hoj c hun hno) (fun cs b => hsel i oi cs b hi) (fun cs b => hsel j oj cs b hoj) hQ ((H w' hg ((okE.set hie).2 hS)).2 j (ready_mono hj c))
      refine wpOp_mono (fun a' w'' hh => ⟨?_, ih (listed.setIfInBounds j true) a' w'' ?_ (ready_mono hr (Ne.symm c)) (hy.same hh.1) ?_⟩) hk
      · have h1 := hh.2.1
        rw [Array.setIfInBounds_comm _ _ (Ne.symm c)] at h1
        exact (okE.set hie).1 h1
      · intro k ok hk hki hun' hno'
        refine hfree k ok hk hki ?_ hno'
        by_cases hjk : j = k
        · rw [← hjk]; exact hun
        · rw [getD_set_ne true hjk] at hun'; exact hun'
      · rw [Array.setIfInBounds_comm _ _ c]
        exact hh.2.2
def okP (md : Region.Mode) (ops : Array Oper) (e i : Nat) (listed : Array Bool) : Bool := Region.noSelect ops && Region.free md ops listed i && (Region.ready md ops listed).contains i && (i != e)
/-- Take number i first, which only reckons. -/
theorem takeP {P : Program} {ops : Array Oper} {Q : Exit → Act → World → Prop} {md : Region.Mode} {S : World → Prop} {e : Nat} (i : Nat) (d : Option Tmp) (v : Value) {oi : Oper} {fuel : Nat} {listed : Array Bool} {a : Act} {w : World} (hi : ops[i]? = some oi) (hd : oi.dst = d) (ht : okP md ops e i listed = true)
    (hQ : ∀ c a w, Q (.panic c) (a.put d v) w → Q (.panic c) a w) (hw : Region.wanted oi (yielded ops a.tmps) = true) (hy : ∀ w, (execOp a.eval oi).run P w = .ok (.value v) w)
    (h : wpAnyE P md ops Q S e fuel (listed.setIfInBounds i true) (a.put d v) w) : wpAnyE P md ops Q S e (fuel + 1) listed a w := by
  subst hd
  unfold okP at ht
  simp only [Bool.and_eq_true] at ht
  obtain ⟨⟨⟨h1, h2⟩, h3⟩, h5⟩ := ht
  exact firstP hi (Region.noSelect_spec h1) hQ (by simpa using h5) fuel listed a w (Region.free_spec hi h2) (by simpa using h3) (Or.inl ⟨hw, hy⟩) h

/-- Take number i first, which is not wanted. -/
theorem takePN {P : Program} {ops : Array Oper} {Q : Exit → Act → World → Prop} {md : Region.Mode} {S : World → Prop} {e : Nat} (i : Nat) (d : Option Tmp) {oi : Oper} {fuel : Nat} {listed : Array Bool} {a : Act} {w : World} (hi : ops[i]? = some oi) (hd : oi.dst = d) (ht : okP md ops e i listed = true)
    (hQ : ∀ c a w, Q (.panic c) (a.put d undef) w → Q (.panic c) a w) (hw : Region.wanted oi (yielded ops a.tmps) = false)
    (h : wpAnyE P md ops Q S e fuel (listed.setIfInBounds i true) (a.put d undef) w) : wpAnyE P md ops Q S e (fuel + 1) listed a w := by
  subst hd
  unfold okP at ht
  simp only [Bool.and_eq_true] at ht
  obtain ⟨⟨⟨h1, h2⟩, h3⟩, h5⟩ := ht
  exact firstP hi (Region.noSelect_spec h1) hQ (by simpa using h5) fuel listed a w (Region.free_spec hi h2) (by simpa using h3) (Or.inr ⟨hw, rfl⟩) h

/-- Number e itself, others behind it. -/
theorem goE {P : Program} {ops : Array Oper} {Q : Exit → Act → World → Prop} {md : Region.Mode} {S : World → Prop} {e : Nat} {fuel : Nat} {listed : Array Bool} {a : Act} {w : World} (hr : Region.ready md ops listed = [e]) (he : listed.getD e true = false) (hl : (listed.setIfInBounds e true).getD e true = true)
    (h : ∀ w', Grows w w' → S w' → wpOp P ops Q e (fun a' w'' => wpAnyE P md ops Q S e fuel (listed.setIfInBounds e true) a' w'') a w') : wpAnyE P md ops Q S e (fuel + 1) listed a w :=
  fun w' hg hS => ⟨fun h0 => (by rw [h0] at hr; cases hr), fun i hi => by
    rw [hr] at hi
    rw [List.mem_singleton.1 hi]
    exact wpOp_mono (fun a' w'' hh => ⟨Or.inl hl, hh⟩) (h w' hg (hS.got he))⟩
/-- The one that may come up, behind number e. -/
theorem thenE {P : Program} {ops : Array Oper} {Q : Exit → Act → World → Prop} {md : Region.Mode} {S : World → Prop} {e : Nat} (j : Nat) {fuel : Nat} {listed : Array Bool} {a : Act} {w : World} (hj : Region.ready md ops listed = [j]) (hl : (listed.setIfInBounds j true).getD e true = true)
    (h : ∀ w', Grows w w' → wpOp P ops Q j (fun a' w'' => wpAnyE P md ops Q S e fuel (listed.setIfInBounds j true) a' w'') a w') : wpAnyE P md ops Q S e (fuel + 1) listed a w :=
  fun w' hg _ => ⟨fun h0 => (by rw [h0] at hj; cases hj), fun i hi => by
    rw [hj] at hi
    rw [List.mem_singleton.1 hi]
    exact wpOp_mono (fun a' w'' hh => ⟨Or.inl hl, hh⟩) (h w' hg)⟩
/-- The end. -/
theorem endE {P : Program} {ops : Array Oper} {Q : Exit → Act → World → Prop} {md : Region.Mode} {S : World → Prop} {e : Nat} {fuel : Nat} {listed : Array Bool} {a : Act} {w : World} (hz : Region.ready md ops listed = []) (h : ∀ w', Grows w w' → Q .normal a w') : wpAnyE P md ops Q S e fuel listed a w := by
  cases fuel with
  | zero => exact ⟨hz, fun w5 h5 _ => h w5 h5⟩
  | succ fuel => exact fun w5 h5 _ => ⟨fun _ => h w5 h5, fun j hj => by rw [hz] at hj; cases hj⟩

end Go.Proofs.YtfknplcnfpincaaGreat

/-
  Two and three new variables in a region that draws its order: whichever is made first. No condition; no statement of the seat is proved here.
-/
namespace Go.Proofs.YtfknplcnfpincaaGreat
open Go.RowKit


theorem Grows.alloc (w : World) (o : Obj) : Grows w (w.alloc o) := below_alloc w o
theorem Blk.grows {w w' : World} {g : Nat} {vs : List Value} {t : TypeId} (h : Blk w g vs t) (hg : Grows w w') : Blk w' g vs t := h.below hg h.lt
theorem alloc1 {P : Program} {ops : Array Oper} {Q : Exit → Act → World → Prop} {md : Region.Mode} {S : World → Prop} (hS : ∀ w w', S w → Grows w w' → S w') {cells : Array Value} {t : TypeId} (i : Nat) (d : Tmp) (m : Makes P ops i d cells t) {fuel : Nat} {listed : Array Bool} {a : Act} {w : World} (hr : Region.ready md ops listed = [i])
    (h : ∀ g w', Grows w w' → S w' → Blk w' g cells.toList t → w.heap.size ≤ g → wpAnyG P md ops Q S fuel (listed.setIfInBounds i true) (a.put (some d) (.pointer (some ⟨g, 0, none⟩))) w') : wpAnyG P md ops Q S (fuel + 1) listed a w := by
  refine oneG i hr fun w' hg hs => m.op ⟨hS _ _ hs (Grows.alloc _ _), ?_⟩
  exact h _ _ (hg.trans (Grows.alloc _ _)) (hS _ _ hs (Grows.alloc _ _)) (Blk.new w' _ _) (Below.size hg)

theorem alloc2 {P : Program} {ops : Array Oper} {Q : Exit → Act → World → Prop} {md : Region.Mode} {S : World → Prop} (hS : ∀ w w', S w → Grows w w' → S w') {cells : Array Value} {t : TypeId} (i j : Nat) (d e : Tmp) (hij : i ≠ j) (hde : d ≠ e) (mi : Makes P ops i d cells t) (mj : Makes P ops j e cells t) {fuel : Nat} {listed : Array Bool} {a : Act} {w : World} (hr : Region.ready md ops listed = [i, j])
    (hi : Region.ready md ops (listed.setIfInBounds i true) = [j]) (hj : Region.ready md ops (listed.setIfInBounds j true) = [i])
    (h : ∀ g k w', Grows w w' → S w' → Blk w' g cells.toList t → Blk w' k cells.toList t → w.heap.size ≤ g → w.heap.size ≤ k → g ≠ k → wpAnyG P md ops Q S fuel ((listed.setIfInBounds i true).setIfInBounds j true) ((a.put (some d) (.pointer (some ⟨g, 0, none⟩))).put (some e) (.pointer (some ⟨k, 0, none⟩))) w') :
    wpAnyG P md ops Q S (fuel + 1 + 1) listed a w := by
  intro w' hg hs
  refine ⟨fun h0 => (by rw [h0] at hr; cases hr), fun x hx => ?_⟩
  rw [hr] at hx
  rcases List.mem_cons.1 hx with rfl | hx
  · refine mi.op ⟨hS _ _ hs (Grows.alloc _ _), alloc1 hS j e mj hi fun k w2 h2 hs2 b2 hk => ?_⟩
    have b1 := (Blk.new w' cells t).grows h2
    exact h _ k w2 (hg.trans ((Grows.alloc _ _).trans h2)) hs2 b1 b2 (Below.size hg) (Nat.le_trans (Below.size hg) (Nat.le_trans (by simp) hk)) (by rw [World.size_alloc] at hk; omega)
  · rw [List.mem_singleton.1 hx]
    refine mj.op ⟨hS _ _ hs (Grows.alloc _ _), alloc1 hS i d mi hj fun g w2 h2 hs2 b2 hk => ?_⟩
    have b1 := (Blk.new w' cells t).grows h2
    have := h g _ w2 (hg.trans ((Grows.alloc _ _).trans h2)) hs2 b2 b1 (Nat.le_trans (Below.size hg) (Nat.le_trans (by simp) hk)) (Below.size hg) (by rw [World.size_alloc] at hk; omega)
    rw [Array.setIfInBounds_comm _ _ hij, Act.put_comm a _ _ (fun z hz he => by cases hz; cases he; exact hde rfl)] at this
    exact this

theorem alloc3 {P : Program} {ops : Array Oper} {Q : Exit → Act → World → Prop} {md : Region.Mode} {S : World → Prop} (hS : ∀ w w', S w → Grows w w' → S w') {cells : Array Value} {t : TypeId} (i j k : Nat) (d e f : Tmp) (hij : i ≠ j) (hik : i ≠ k) (hjk : j ≠ k) (hde : d ≠ e) (hdf : d ≠ f) (hef : e ≠ f) (mi : Makes P ops i d cells t) (mj : Makes P ops j e cells t) (mk : Makes P ops k f cells t) {fuel : Nat} {listed : Array Bool} {a : Act} {w : World} (hr : Region.ready md ops listed = [i, j, k])
    (hi : Region.ready md ops (listed.setIfInBounds i true) = [j, k]) (hj : Region.ready md ops (listed.setIfInBounds j true) = [i, k]) (hk : Region.ready md ops (listed.setIfInBounds k true) = [i, j])
    (hi1 : Region.ready md ops ((listed.setIfInBounds i true).setIfInBounds j true) = [k]) (hi2 : Region.ready md ops ((listed.setIfInBounds i true).setIfInBounds k true) = [j]) (hi3 : Region.ready md ops ((listed.setIfInBounds j true).setIfInBounds k true) = [i])
    (h : ∀ g0 g1 g2 w', Grows w w' → S w' → Blk w' g0 cells.toList t → Blk w' g1 cells.toList t → Blk w' g2 cells.toList t → w.heap.size ≤ g0 → w.heap.size ≤ g1 → w.heap.size ≤ g2 → g0 ≠ g1 → g0 ≠ g2 → g1 ≠ g2 → wpAnyG P md ops Q S fuel (((listed.setIfInBounds i true).setIfInBounds j true).setIfInBounds k true) (((a.put (some d) (.pointer (some ⟨g0, 0, none⟩))).put (some e) (.pointer (some ⟨g1, 0, none⟩))).put (some f) (.pointer (some ⟨g2, 0, none⟩))) w') :
    wpAnyG P md ops Q S (fuel + 1 + 1 + 1) listed a w := by
  have pc : ∀ (b : Act) {x y : Tmp} (u v : Value), x ≠ y → (b.put (some x) u).put (some y) v = (b.put (some y) v).put (some x) u := fun b x y u v hxy => Act.put_comm b u v (fun z hz he => by cases hz; cases he; exact hxy rfl)
  intro w' hg hs
  refine ⟨fun h0 => (by rw [h0] at hr; cases hr), fun x hx => ?_⟩
  rw [hr] at hx
  rcases List.mem_cons.1 hx with rfl | hx
  · refine mi.op ⟨hS _ _ hs (Grows.alloc _ _), alloc2 hS j k e f hjk hef mj mk hi hi1 hi2 fun g1 g2 w2 h2 hs2 b2 b3 h1 h3 hne => ?_⟩
    have b1 := (Blk.new w' cells t).grows h2
    rw [World.size_alloc] at h1 h3
    have hw := Below.size hg
    exact h _ g1 g2 w2 (hg.trans ((Grows.alloc _ _).trans h2)) hs2 b1 b2 b3 hw (by omega) (by omega) (by omega) (by omega) hne
  · rcases List.mem_cons.1 hx with rfl | hx
    · refine mj.op ⟨hS _ _ hs (Grows.alloc _ _), alloc2 hS i k d f hik hdf mi mk hj (by rw [Array.setIfInBounds_comm _ _ (Ne.symm hij)]; exact hi1) hi3 fun g0 g2 w2 h2 hs2 b2 b3 h1 h3 hne => ?_⟩
      have b1 := (Blk.new w' cells t).grows h2
      rw [World.size_alloc] at h1 h3
      have hw := Below.size hg
      have := h g0 _ g2 w2 (hg.trans ((Grows.alloc _ _).trans h2)) hs2 b2 b1 b3 (by omega) hw (by omega) (by omega) hne (by omega)
      rw [Array.setIfInBounds_comm _ _ hij, pc a _ _ hde] at this
      exact this
    · rw [List.mem_singleton.1 hx]
      refine mk.op ⟨hS _ _ hs (Grows.alloc _ _), alloc2 hS i j d e hij hde mi mj hk (by rw [Array.setIfInBounds_comm _ _ (Ne.symm hik)]; exact hi2) (by rw [Array.setIfInBounds_comm _ _ (Ne.symm hjk)]; exact hi3) fun g0 g1 w2 h2 hs2 b2 b3 h1 h3 hne => ?_⟩
      have b1 := (Blk.new w' cells t).grows h2
      rw [World.size_alloc] at h1 h3
      have hw := Below.size hg
      have := h g0 g1 _ w2 (hg.trans ((Grows.alloc _ _).trans h2)) hs2 b2 b3 b1 (by omega) (by omega) hw hne (by omega) (by omega)
      rw [Array.setIfInBounds_comm _ _ hjk, Array.setIfInBounds_comm _ _ hik, pc _ _ _ hef, pc a _ _ hdf] at this
      exact this
end Go.Proofs.YtfknplcnfpincaaGreat

/-
  Slices of bytes in a world that has only grown. No condition; no statement of the seat is proved here.
-/
namespace Go.Proofs.YtfknplcnfpincaaGreat
open Go.RowKit

theorem Bs.grows {w w' : World} {a : Option Addr} {n c : Nat} {l : List UInt8} (h : Bs w a n c l) (hg : Grows w w') : Bs w' a n c l := h.below hg (Nat.le_refl _)

end Go.Proofs.YtfknplcnfpincaaGreat
