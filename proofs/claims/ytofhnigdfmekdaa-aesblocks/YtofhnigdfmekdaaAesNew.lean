/-
  The contract of 'New': the cipher of a key of 32 bytes; and that other keys are refused. Condition: the tables lie where the pointer leads.
-/
import Derived.Test.YtofhnigdfmekdaaAesKeys
import Derived.Test.YtofhnigdfmekdaaAesSeal
namespace Go.Proofs.Ytofhnigdfmekdaa
open Go.RowKit

theorem built57 (parts : List (Nat × Value)) : Try.prog.built 57 parts = Instr.fill (#[(0, 512), (512, 240)][·]?) (zarr 752) parts := by kernel_rfl
theorem fold_set (A : List Value) : ∀ (k : Nat) (cells : Array Value) (off : Nat), off + k + A.length ≤ cells.size →
    ((A.zipIdx k).foldl (fun cs (c, j) => cs.setIfInBounds (off + j) c) cells).toList = cells.toList.take (off + k) ++ A ++ cells.toList.drop (off + k + A.length) := by
  induction A with
  | nil => intro k cells off _; simp
  | cons a A ih =>
    intro k cells off h
    rw [List.zipIdx_cons, List.foldl_cons, ih (k + 1) _ off (by simp at h ⊢; omega)]
    simp only [Array.toList_setIfInBounds]
    have := list_seg_step cells.toList (off + k) a A (by simp at h ⊢; omega)
    exact this
theorem fold_arr (A : List Value) (cells : Array Value) (off : Nat) (h : off + A.length ≤ cells.size) :
    (A.toArray.zipIdx.foldl (fun cs (c, j) => cs.setIfInBounds (off + j) c) cells) = (cells.toList.take off ++ A ++ cells.toList.drop (off + A.length)).toArray := by
  apply Array.toList_inj.1
  have := fold_set A 0 cells off (by omega)
  rw [Nat.add_zero] at this
  rw [← this]
  simp

def bC (P : Program) (A B : Array Value) : Option (Array Value) := P.built 57 [(0, .agg A), (1, .agg B)]
theorem fill_one {place : Nat → Option (Nat × Nat)} {cells : Array Value} {i off size : Nat} {A : List Value} {rest : List (Nat × Value)} (hp : place i = some (off, size)) (hs : A.length = size) (hf : off + size ≤ cells.size) :
    Instr.fill place cells ((i, .agg A.toArray) :: rest) = Instr.fill place (cells.toList.take off ++ A ++ cells.toList.drop (off + size)).toArray rest := by
  have h1 : (Value.agg A.toArray).cells = A.toArray := rfl
  have h2 : A.toArray.size = size := by rw [List.size_toArray, hs]
  subst hs
  rw [Instr.fill, hp, ← fold_arr A cells off hf]
  show (if _ then none else _) = _
  rw [if_neg (by rw [h1, h2]; simp; omega)]
  rfl
theorem bC_of {A B : List Value} (hA : A.length = 512) (hB : B.length = 240) : bC Try.prog A.toArray B.toArray = some (A ++ B).toArray := by
  have hz : (zarr 752).toList.length = 752 := by rw [zarr_toList, cs_length, List.length_replicate]
  have hz' : (zarr 752).size = 752 := by rw [← Array.length_toList, hz]
  unfold bC
  rw [built57, fill_one (off := 0) (size := 512) rfl hA (by omega), List.take_zero, List.nil_append, Nat.zero_add]
  have hZ : ((zarr 752).toList.drop 512).length = 240 := by rw [List.length_drop, hz]
  generalize (zarr 752).toList.drop 512 = Z at hZ
  rw [fill_one (off := 512) (size := 240) rfl hB (by rw [List.size_toArray, List.length_append, hA, hZ]; omega), Instr.fill]
  congr 2
  show (A ++ Z).take 512 ++ B ++ (A ++ Z).drop (512 + 240) = A ++ B
  rw [List.drop_eq_nil_of_le (by rw [List.length_append, hA, hZ]; omega), List.append_nil, List.take_append_of_le_length (by omega), List.take_of_length_le (by omega)]

def bd57 (parts : Array (Nat × Value)) : Sem Value := Instr.build 57 parts
theorem bd57_in (parts : Array (Nat × Value)) : Instr.build 57 parts = bd57 parts := rfl
def farBd (P : Program) (A B : Array Value) (w : World) : Result Value := Sem.run P (bd57 #[(0, .agg A), (1, .agg B)]) w
theorem bd57_run (A B : Array Value) (w : World) : Sem.run Try.prog (bd57 #[(0, .agg A), (1, .agg B)]) w = match bC Try.prog A B with | some c => .ok (.agg c) w | none => farBd Try.prog A B w := by
  split
  · rename_i c h
    exact run_build w 57 _ c h
  · rfl

theorem sizeT : (Try.prog.info? 45).map (·.size) = some 512 := by kernel_rfl
/-- The 512 cells from a place on, where they are all there. -/
def rowT (w : World) (b o : Nat) : Option (Array Value) :=
  if ∀ j, j < 512 → (w.cell? ⟨b, o + j, none⟩).isSome = true then some ((List.range 512).map fun j => (w.cell? ⟨b, o + j, none⟩).getD undef).toArray else none
def farLdT (P : Program) (w : World) (b o : Nat) : Result Value := Sem.run P (Instr.loadAt 45 (.pointer (some ⟨b, o, none⟩))) w
def ldT (x : Value) : Sem Value := Instr.loadAt 45 x
theorem ldT_in (x : Value) : Instr.loadAt 45 x = ldT x := rfl
theorem ldT_run (w : World) (b o : Nat) : Sem.run Try.prog (ldT (.pointer (some ⟨b, o, none⟩))) w = match rowT w b o with | some c => .ok (.agg c) w | none => farLdT Try.prog w b o := by
  unfold rowT
  split
  · rename_i c hc
    split at hc
    · rename_i h
      simp only [Option.some.injEq] at hc
      subst hc
      refine run_loadAt_mid w b o 45 _ _ (fun j v hv => ?_) Try.underlying45 rfl (by rw [sizeT, List.length_map, List.length_range])
      have hj : j < 512 := by
        have := (List.getElem?_eq_some_iff.1 hv).1
        rw [List.length_map, List.length_range] at this
        exact this
      have e := h j hj
      obtain ⟨u, hu⟩ := Option.isSome_iff_exists.1 e
      rw [List.getElem?_map, List.getElem?_range hj] at hv
      simp only [Option.map_some, Option.some.injEq] at hv
      rw [hu, ← hv, hu]
      rfl
    · simp at hc
  · rfl
theorem rowT_drew (w : World) (b o : Nat) : rowT w.drew b o = rowT w b o := rfl
set_option maxRecDepth 100000 in
theorem rowT_of {w : World} {b o : Nat} {c : List Value} (h : w.rangeAt b o c) (hc : c.length = 512) : rowT w b o = some c.toArray := by
  have hs : ∀ j, j < 512 → w.cell? ⟨b, o + j, none⟩ = c[j]? := fun j hj => by
    rw [h j c[j] (List.getElem?_eq_getElem (by omega)), List.getElem?_eq_getElem]
  unfold rowT
  rw [if_pos (fun j hj => by rw [hs j hj, List.getElem?_eq_getElem (by omega)]; rfl)]
  congr 2
  apply List.ext_getElem
  · rw [List.length_map, List.length_range, hc]
  · intro j h1 h2
    simp only [List.getElem_map, List.getElem_range]
    rw [hs j (by omega), List.getElem?_eq_getElem h2]
    rfl

/-- What New leaves: a cipher in new memory. -/
def HasC (w : World) (K : List UInt8) (e : Ending) (w' : World) : Prop := ∃ r, e = .returned (.tuple #[.pointer (some ⟨r, 0, none⟩), .int .i64 0]) ∧ w.heap.size ≤ r ∧ Cip w' r K ∧ Below w.heap.size w w'

attribute [local go_sem ↓] ldT_in bd57_in
attribute [local go_sem] ldT_run rowT_drew bd57_run
set_option maxRecDepth 100000 in
set_option maxHeartbeats 2000000 in
theorem oNewC (w : World) (g : Nat) (hT : Tab w g) {a : Option Addr} {c : Nat} {key : List UInt8} (ha : Bs w a 32 c key) :
    Calls Try.prog 12 #[.pointer (some ⟨g, 0, none⟩), .slice a 32 c] w (HasC w (keyF key)) := by
  have hgl := hT.lt
  have HTL : Hid ((cs tabT).length = 512) := by show _ = _; rw [cs_length, tabT_length]
  have HKL : Hid ((keyF key).length = 240) := keyF_length ha.len
  have HCL : Hid ((cs (keyF key)).length = 240) := by show _ = _; rw [cs_length, HKL.out]
  have q0 := rowT_of hT HTL.out
  have hbc := bC_of HTL.out HCL.out
  have CS : Hid (∀ w, Tab w g → Bs w a 32 c key → Calls Try.prog 23 #[.pointer (some ⟨g, 0, none⟩), .slice a 32 c] w fun e w' => e = .returned (.agg (cs (keyF key)).toArray) ∧ Below w.heap.size w w') := fun w h h' => oSched w g h h'
  have CK : Hid (∀ w, Calls Try.prog 24 #[.agg (cs (keyF key)).toArray] w fun e w' => e = .returned (.agg (cs (keyF key)).toArray) ∧ Below w.heap.size w w') := fun w => oKeys w _ HKL.out
  rw [← cs_append] at hbc
  generalize hX : cs (tabT ++ keyF key) = X at hbc
  have HX : Hid (cs (tabT ++ keyF key) = X) := hX
  clear hX
  have HT : Hid (Tab w g) := hT
  clear hT
  go_enter Try.func12, Try.ntmps12
  go_wp2_with fail
  go_region_with (first
    | (go_at_call 23; refine (CS.out w.drew HT.out ha.drew).mono ?_; rintro e w2 ⟨rfl, hb2⟩; have q2 := rowT_of (HT.out.dr.below hb2 hgl) HTL.out)
    | (go_at_call 24; refine (CK.out w2).mono ?_; rintro e w3 ⟨rfl, hb3⟩; have q3 := rowT_of ((HT.out.dr.below hb2 hgl).below hb3 (Nat.lt_of_lt_of_le hgl hb2.size)) HTL.out))
  all_goals
    go_wp2_with fail
    go_ret2
    have h3 : Below w.heap.size w w3 := ((Below.refl _ w).drew.trans hb2).trans (hb3.mono hb2.size)
    refine ⟨w3.heap.size, rfl, h3.size, ?_, h3.alloc h3.size _⟩
    unfold Cip
    rw [HX.out]
    exact (Blk.new w3 X.toArray _).whole

theorem oNewNot (w : World) (g : Nat) {a : Option Addr} {n c : Nat} (hn : ¬ n = 32) :
    Calls Try.prog 12 #[.pointer (some ⟨g, 0, none⟩), .slice a n c] w fun e w' => e = .returned (.tuple #[.pointer none, .int .i64 17]) ∧ w = w' := by
  have h1 : ((n : Int) != 32) = true := by simp; omega
  go_enter Try.func12, Try.ntmps12
  go_wp2
  go_ret2
  exact ⟨rfl, rfl⟩
theorem oNewNil (w : World) {a : Option Addr} {n c : Nat} :
    Calls Try.prog 12 #[.pointer none, .slice a n c] w fun e w' => e = .returned (.tuple #[.pointer none, .int .i64 1]) ∧ w = w' := by
  go_enter Try.func12, Try.ntmps12
  go_wp2
  go_ret2
  exact ⟨rfl, rfl⟩

end Go.Proofs.Ytofhnigdfmekdaa
