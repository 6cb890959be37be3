/-
  Contracts of layer 11's program: how a tape lies in memory ('Tp'), New, Drawn, Left. Conditions: at most 1000 keys.
-/
import Derived.Test.YtphkkbkfioaikaaTapN
import Derived.Test.YtphkkbkfioaikaaPowL
import Derived.Test.YtphkkbkfioaikaaBss
namespace Go.Proofs.Ytphkkbkfioaikaa
open Go.RowKit

theorem cs_take (l : List UInt8) (k : Nat) : (cs l).take k = cs (l.take k) := by simp [cs]
theorem cs_drop (l : List UInt8) (k : Nat) : (cs l).drop k = cs (l.drop k) := by simp [cs]

theorem toList_madeCells_rep (sz : Nat) (z : Value) (n : Nat) (h : 0 < sz) : (madeCells (Array.replicate sz z) n).toList = List.replicate n z := by
  apply List.ext_getElem?
  intro j
  by_cases hj : j < n
  · have hm : j % sz < sz := Nat.mod_lt _ h
    simp [madeCells, hj, hm]
  · simp [madeCells, hj]
/-- 'make([]E, n)': a block of noughts. -/
theorem wpList_mkB {ops : Array Oper} {rest : List Oper} {o : Oper} {a : Act} {Q : Exit → Act → World → Prop} (w : World) (T e : TypeId) (z zz : Value) (sz by_ : Nat) (hT : Try.prog.underlying T = some (.slice e)) (hi : (Try.prog.info? e).map (fun i => (i.zero, i.size, i.bytes)) = some (some z, sz, by_)) (hz : z.cells = Array.replicate sz zz) (hsz : 0 < sz) (hby : by_ ≤ 1000)
    (hgd : o.guard = none) (l c : Operand) (ho : o.op = Op.makeSlice T l c) (n : Nat) (hl : a.eval l = .int .i64 (n : Int)) (hc : a.eval c = .int .i64 (n : Int)) (hn : n ≤ 1000000)
    (h : ∀ w', Blk w' w.heap.size (List.replicate (n * sz) zz) e → Below w.heap.size w w' → wpList Try.prog ops Q rest (a.put o.dst (.slice (some ⟨w.heap.size, 0, none⟩) n n)) w') : wpList Try.prog ops Q (o :: rest) a w := by
  obtain ⟨i0, hi, hz0, hz1, hz2⟩ := info_parts hi
  refine wpList_make_full w hgd l c T ho w.heap.size e i0 z sz hT hi hz0 hz1 .i64 .i64 (n : Int) (n : Int) n hl hc rfl rfl (by rw [hz2]; have := Nat.mul_le_mul hby hn; omega) (by unfold maxLen; omega) (Nat.le_refl _) ?_
  intro w' ho' hg
  rw [hz, toList_madeCells_rep sz zz _ hsz] at ho'
  refine h w' ?_ ((Below.refl _ _).grown hg (Nat.le_refl _) (by simp))
  obtain ⟨h1, h2⟩ := ho'
  rcases h2 with ⟨h2, _⟩ | ⟨g', cap, cur, hv, _, hh, _, _, hcs, ht⟩
  · simp at h2
  · simp only [Value.slice.injEq, Option.some.injEq, Addr.mk.injEq] at hv
    obtain ⟨⟨rfl, _, _⟩, _, rfl⟩ := hv
    unfold Blk
    rw [hh, ← ht, List.take_of_length_le (by rw [Array.length_toList]; omega)]

/-- The tape T in block t, its keys in block kb. -/
structure Tp (w : World) (t kb : Nat) (T : TapS) : Prop where
  ne : ¬ t = kb
  b : Blk w t [.slice (some ⟨kb, 0, none⟩) T.l.length T.l.length, .int .i64 (T.next : Int)] 46
  k : Blk w kb (cs T.l.flatten) 48
  s : ∀ x ∈ T.l, x.length = 32
  n : T.l.length ≤ 1000
  x : T.next ≤ T.l.length
theorem Tp.keep {F : Nat → Prop} {w w' : World} {t kb : Nat} {T : TapS} (h : Tp w t kb T) (k : Kp F w w') (h1 : ¬ F t) (h2 : ¬ F kb) : Tp w' t kb T := ⟨h.ne, k.blk h.b h1, k.blk h.k h2, h.s, h.n, h.x⟩
theorem Tp.grow {w w' : World} {t kb : Nat} {T : TapS} (h : Tp w t kb T) (k : Below w.heap.size w w') : Tp w' t kb T := h.keep (F := fun _ => False) (Kp.of_below k) (fun h => h) (fun h => h)
theorem cs_flatten (l : List (List UInt8)) : cs l.flatten = (l.map cs).flatten := by
  induction l with
  | nil => rfl
  | cons a l ih => rw [List.flatten_cons, cs_append, ih, List.map_cons, List.flatten_cons]
/-- Rows of like lengths, one behind the other. -/
theorem rows_at {sz : Nat} : ∀ {rows : List (List Value)}, (∀ vs ∈ rows, vs.length = sz) → ∀ {i : Nat} {vs : List Value}, rows[i]? = some vs → ∀ j v, vs[j]? = some v → rows.flatten[i * sz + j]? = some v
  | [], _, i, vs, h, j, v, hv => by simp at h
  | r :: rows, hl, 0, vs, h, j, v, hv => by
    simp at h
    subst h
    rw [List.flatten_cons, Nat.zero_mul, Nat.zero_add, List.getElem?_append_left (List.getElem?_eq_some_iff.1 hv).1]
    exact hv
  | r :: rows, hl, i + 1, vs, h, j, v, hv => by
    have h0 := hl r (by simp)
    rw [List.flatten_cons, List.getElem?_append_right (by rw [h0, Nat.succ_mul]; omega), show (i + 1) * sz + j - r.length = i * sz + j from by rw [h0, Nat.succ_mul]; omega]
    exact rows_at (fun v hv => hl v (by simp [hv])) (by simpa using h) j v hv
/-- A key's cells. -/
theorem key_cells {l : List (List UInt8)} (hs : ∀ x ∈ l, x.length = 32) {i : Nat} (hi : i < l.length) (j : Nat) (v : Value) (hv : (cs (l.getD i []))[j]? = some v) : (cs l.flatten)[i * 32 + j]? = some v := by
  rw [cs_flatten]
  refine rows_at (sz := 32) (fun vs h => ?_) (i := i) (vs := cs (l.getD i [])) ?_ j v hv
  · obtain ⟨x, hx, rfl⟩ := List.mem_map.1 h
    rw [cs_length, hs x hx]
  · rw [List.getElem?_map, List.getD_eq_getElem?_getD, List.getElem?_eq_getElem hi]
    rfl
theorem key_len {l : List (List UInt8)} (hs : ∀ x ∈ l, x.length = 32) {i : Nat} (hi : i < l.length) : (l.getD i []).length = 32 := by
  rw [List.getD_eq_getElem?_getD, List.getElem?_eq_getElem hi]
  exact hs _ (List.getElem_mem hi)
/-- A key as a slice. -/
theorem Tp.key {w : World} {t kb : Nat} {T : TapS} (h : Tp w t kb T) {i : Nat} (hi : i < T.l.length) : Bs w (some ⟨kb, i * 32, none⟩) 32 32 (T.l.getD i []) := by
  have hl := key_len h.s hi
  refine ⟨hl, Nat.le_refl _, by unfold maxLen; omega, by simp, fun j hj => ⟨kb, i * 32, rfl, ?_⟩⟩
  rw [h.k.cell]
  exact key_cells h.s hi j _ (cs_get (by omega))

theorem lenKey : Try.prog.arrayLen 48 = 32 := by kernel_rfl
theorem undKey : Try.prog.underlying 48 = some (.array (Try.prog.arrayLen 48) (Try.prog.elem 48)) := by kernel_rfl
theorem elKey (w : World) : Sem.run Try.prog (sizeOf (Try.prog.elem 48)) w = .ok 1 w := by kernel_rfl
theorem allKey (g o : Nat) (w : World) : Sem.run Try.prog (Instr.sliceAt 48 (.pointer (some ⟨g, o, none⟩)) none none none) w = .ok (.slice (some ⟨g, o, none⟩) 32 32) w := by
  rw [run_sliceAt_array_all w 48 _ undKey, elKey]
  simp only [Result.andThen, slicedAt, lenKey]
  rfl
theorem infoKey : (Try.prog.info? 48).map (fun i => (i.zero, i.size, i.bytes)) = some (some (.agg (Array.replicate 32 (.int .u8 0))), 32, 32) := by kernel_rfl
theorem cellsKey : (Value.agg (Array.replicate 32 (.int .u8 0))).cells = Array.replicate 32 (.int .u8 0) := rfl

/-- The keys' bytes while they are laid. -/
def keysF (ls : List (List UInt8)) (k : Nat) : List UInt8 := ((ls.take k).map key32).flatten ++ List.replicate ((ls.length - k) * 32) 0
theorem keys_len (l : List (List UInt8)) : ((l.map key32).flatten).length = l.length * 32 := by
  induction l with
  | nil => rfl
  | cons a l ih => rw [List.map_cons, List.flatten_cons, List.length_append, key32_length, ih, List.length_cons, Nat.succ_mul]; omega
theorem keysF_len {ls : List (List UInt8)} {k : Nat} (hk : k ≤ ls.length) : (keysF ls k).length = ls.length * 32 := by
  unfold keysF
  rw [List.length_append, keys_len, List.length_replicate, List.length_take, Nat.min_eq_left hk, ← Nat.add_mul]
  congr 1
  omega
theorem key32_eq (b : List UInt8) : key32 b = b.take 32 ++ List.replicate (32 - min b.length 32) 0 := by
  unfold key32 zk32
  rw [List.take_append, List.take_replicate]
  congr 2
  omega
theorem keysF_step {ls : List (List UInt8)} {k : Nat} (hk : k < ls.length) : (keysF ls k).take (k * 32) ++ (ls.getD k []).take (min (ls.getD k []).length 32) ++ (keysF ls k).drop (k * 32 + min (ls.getD k []).length 32) = keysF ls (k + 1) := by
  have hl : (((ls.take k).map key32).flatten).length = k * 32 := by rw [keys_len, List.length_take, Nat.min_eq_left (by omega)]
  obtain ⟨b, hb⟩ : ∃ b, b = ls.getD k [] := ⟨_, rfl⟩
  rw [← hb]
  have e1 : (ls.take (k + 1)).map key32 = (ls.take k).map key32 ++ [key32 b] := by
    rw [List.take_succ_eq_append_getElem hk, List.map_append, hb, List.getD_eq_getElem?_getD, List.getElem?_eq_getElem hk]
    rfl
  have e2 : b.take (min b.length 32) = b.take 32 := by
    rw [Nat.min_comm, ← List.take_take, List.take_of_length_le (Nat.le_refl b.length)]
  unfold keysF
  rw [e1, List.flatten_append, List.flatten_singleton, key32_eq, e2, List.take_append_of_le_length (by omega), List.take_of_length_le (by omega), List.drop_append, List.drop_of_length_le (by omega), hl, List.nil_append, List.drop_replicate, show k * 32 + min b.length 32 - k * 32 = min b.length 32 from by omega]
  rw [List.append_assoc, List.append_assoc, List.append_assoc, List.replicate_append_replicate]
  congr 4
  have h32 : (ls.length - k) * 32 = (ls.length - (k + 1)) * 32 + 32 := by rw [show ls.length - k = (ls.length - (k + 1)) + 1 from by omega, Nat.succ_mul]
  omega
theorem keysF_all (ls : List (List UInt8)) : keysF ls ls.length = ((ls.map key32)).flatten := by
  unfold keysF
  rw [List.take_length, Nat.sub_self, Nat.zero_mul, List.replicate_zero, List.append_nil]
theorem keysF_none (ls : List (List UInt8)) : cs (keysF ls 0) = List.replicate (ls.length * 32) (.int .u8 0) := by
  unfold keysF
  simp [cs]
theorem new_s (ls : List (List UInt8)) : ∀ x ∈ (TapS.new ls).l, x.length = 32 := fun x hx => by
  obtain ⟨b, _, rfl⟩ := List.mem_map.1 hx
  exact key32_length b

set_option maxHeartbeats 1000000 in
set_option maxRecDepth 100000 in
theorem oTNew (w : World) {a : Option Addr} {n c : Nat} {ls : List (List UInt8)} (ha : Bss w a n c ls) (hn : n ≤ 1000) :
    Calls Try.prog 8 #[.slice a n c] w fun e w' => ∃ t kb, e = .returned (.pointer (some ⟨t, 0, none⟩)) ∧ Tp w' t kb (TapS.new ls) ∧ w.heap.size ≤ t ∧ w.heap.size ≤ kb ∧ Below w.heap.size w w' := by
  have hl := ha.len
  have hall := allKey
  have ik := infoKey
  have HA : Hid (Bss w a n c ls) := ha
  clear ha
  go_enter Try.func8, Try.ntmps8
  go_wp2_with (at_make; refine wpList_mkB _ 44 48 _ (.int .u8 0) 32 32 Try.underlying44 ik cellsKey (by omega) (by omega) rfl _ _ rfl n rfl rfl (by omega) ?_; intro w1 hB1 hb1)
  have hlt1 := hB1.lt
  have hsz1 := hb1.size
  have hT0 : Blk (w1.alloc (.cells #[.slice (some ⟨w.heap.size, 0, none⟩) n n, .int .i64 0] 46)) w1.heap.size [.slice (some ⟨w.heap.size, 0, none⟩) n n, .int .i64 0] 46 := Blk.newAt w1 _ _ _ rfl _ rfl
  have hK0 : Blk (w1.alloc (.cells #[.slice (some ⟨w.heap.size, 0, none⟩) n n, .int .i64 0] 46)) w.heap.size (cs (keysF ls 0)) 48 := by
    rw [keysF_none, hl]
    exact hB1.below (below_alloc _ _) hlt1
  have hb0 : Below w.heap.size w (w1.alloc (.cells #[.slice (some ⟨w.heap.size, 0, none⟩) n n, .int .i64 0] 46)) := hb1.alloc hsz1 _
  have Hne : Hid (w.heap.size < w1.heap.size) := hlt1
  generalize w1.heap.size = t at *
  clear hB1 hb1
  go_loopw [13] (fun i wr => ∃ k : Nat, k ≤ n ∧ i = .int .i64 (k : Int) ∧ Blk wr t [.slice (some ⟨w.heap.size, 0, none⟩) n n, .int .i64 0] 46 ∧ Blk wr w.heap.size (cs (keysF ls k)) 48 ∧ Below w.heap.size w wr) (fun i _ => n - (intOf i).toNat)
  case atStart => exact ⟨0, Nat.zero_le _, rfl, hT0, hK0, hb0⟩
  case round =>
    obtain ⟨k, hk, rfl, hT, hK, hb⟩ := hrel
    clear hT0 hK0 hb0
    by_cases hlt : k < n
    · obtain ⟨x, o, rfl, hx, hc⟩ := HA.out.at (by omega)
      obtain ⟨p, m, q, c1, hp⟩ := Bss.part hc hb k hlt
      have hp2 := hp.below hb (Nat.le_refl _)
      have c0 : wr.cell? ⟨t, 0, none⟩ = some (.slice (some ⟨w.heap.size, 0, none⟩) n n) := hT.cell 0
      have hm := hp2.len
      have HS : Hid ((keysF ls k).take (k * 32) ++ (ls.getD k []).take (min m 32) ++ (keysF ls k).drop (k * 32 + min m 32) = keysF ls (k + 1)) := by
        show _ = _
        rw [← hm]
        exact keysF_step (by omega)
      have hfit : k * 32 + 32 ≤ (cs (keysF ls k)).length := by rw [cs_length, keysF_len (by omega), hl]; omega
      have hkn : (k : Int) < (n : Int) := by omega
      clear hc
      go_wp2_with ((with_reducible refine at_cp ?_); (refine wpList_cpo _ rfl _ _ rfl w.heap.size (k * 32) 32 32 rfl p m q rfl _ hp2 _ _ hK hfit (min m 32) rfl ?_); intro w3 hB3 hg3)
      have hT3 : Blk w3 t [.slice (some ⟨w.heap.size, 0, none⟩) n n, .int .i64 0] 46 := (Kp.of_grown hg3).blk hT (by have := Hne.out; omega)
      have hk3 : Below w.heap.size w w3 := below_of_but hb hg3 (Nat.le_refl _) hb.size
      rw [cs_take, cs_drop, ← cs_append, ← cs_append, HS.out] at hB3
      go_wp2_with fail
      go_roundw
      case rel => exact ⟨k + 1, by omega, by go_num, hT3, hB3, hk3⟩
      case measure => simp [intOf]; omega
    · have hkn : k = n := by omega
      subst hkn
      have HT : Hid (Tp wr t w.heap.size (TapS.new ls)) := by
        have hll : (TapS.new ls).l.length = k := by rw [← hl]; exact List.length_map ..
        refine ⟨by have := Hne.out; omega, ?_, ?_, new_s ls, by omega, Nat.zero_le _⟩
        · rw [hll]
          exact hT
        · rw [← hl, keysF_all] at hK
          exact hK
      clear hT hK
      go_wp2_with fail
      go_ret
      exact ⟨t, w.heap.size, rfl, HT.out, Nat.le_of_lt Hne.out, Nat.le_refl _, hb⟩

theorem oTDrawn (w : World) {t kb : Nat} {T : TapS} (h : Tp w t kb T) : Calls Try.prog 15 #[.pointer (some ⟨t, 0, none⟩)] w fun e w' => e = .returned (.int .i64 (T.next : Int)) ∧ Below w.heap.size w w' := by
  have hl := h.b.lt
  have c1 : w.cell? ⟨t, 1, none⟩ = some (.int .i64 (T.next : Int)) := h.b.cell 1
  clear h
  generalize (T.next : Int) = n at *
  go_enter Try.func15, Try.ntmps15
  go_wp2_with fail
  go_ret
  exact ⟨rfl, Below.refl _ _⟩
theorem oTLeft (w : World) {t kb : Nat} {T : TapS} (h : Tp w t kb T) : Calls Try.prog 16 #[.pointer (some ⟨t, 0, none⟩)] w fun e w' => e = .returned (.int .i64 ((T.l.length : Int) - (T.next : Int))) ∧ Below w.heap.size w w' := by
  have hl := h.b.lt
  have c0 : w.cell? ⟨t, 0, none⟩ = some (.slice (some ⟨kb, 0, none⟩) T.l.length T.l.length) := h.b.cell 0
  have c1 : w.cell? ⟨t, 1, none⟩ = some (.int .i64 (T.next : Int)) := h.b.cell 1
  have h1 := h.n
  have h2 := h.x
  clear h
  generalize T.l.length = N at *
  generalize T.next = n at *
  have i1 : (N : Int) ≤ 1000 := by omega
  have i2 : (n : Int) ≤ (N : Int) := by omega
  have i3 : (0 : Int) ≤ (n : Int) := by omega
  go_enter Try.func16, Try.ntmps16
  go_wp2_with fail
  go_quiet (fail)
  go_wp2_with fail
  go_ret
  exact ⟨rfl, below_drewN' _ _⟩

end Go.Proofs.Ytphkkbkfioaikaa
