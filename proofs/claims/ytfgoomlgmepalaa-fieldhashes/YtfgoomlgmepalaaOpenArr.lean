/-
  How an argument that is an array of 16 bytes is opened into a plain list. No condition; no statement of the seat is proved here.
-/
import Derived.Test.YtfgoomlgmepalaaOpen
import Derived.ChangeSame
namespace Go.Proofs.Ytfgoomlgmepalaa
open Go.RowKit Go.ChangeShapes Go.WideShapes Go.ChangeAt

theorem mapM_each {α β : Type} {f : α → Option β} : ∀ {L : List α} {ys : List β}, L.mapM f = some ys → ∀ i ∈ L, ∃ y, f i = some y
  | [], _, _, i, hi => by simp at hi
  | j :: L, ys, h, i, hi => by
    rw [List.mapM_cons] at h
    simp only [bind, Option.bind_eq_some_iff, pure, Option.some.injEq] at h
    obtain ⟨y, hy, zs, hz, _⟩ := h
    rcases List.mem_cons.1 hi with rfl | hi
    · exact ⟨y, hy⟩
    · exact mapM_each hz i hi

theorem cellsK : Try.prog.cellsOf 22 = 16 := by kernel_rfl
theorem cells5 : Try.prog.cellsOf 5 = 1 := by kernel_rfl

theorem okWide_arr16 {W : World} {b0 : Nat} {v : Value} (h : Value.okWide Try.prog W .any b0 22 v) : ∃ xs : Array Value, v = .agg xs ∧ xs.size = 16 := by
  simp only [Value.okWide, Try.underlying22] at h
  obtain ⟨cs, h1, h2, _⟩ := h
  exact ⟨cs, h1, by rw [h2, cellsK]⟩

theorem arr16_of_trod {H : Type} {enc : TypeId × Value → H} {W : World} {base : Nat} {held : Bool} {fuel : Nat} {xs : Array Value} {x : DataW H × List MemPlace} (hs : xs.size = 16)
    (h : DataW.trod enc Try.prog W base (fun _ => true) held fuel 22 (Value.agg xs).cells.toList = some x) : ∃ l : List UInt8, xs = (cs l).toArray ∧ l.length = 16 := by
  cases fuel with
  | zero => simp [DataW.trod] at h
  | succ m =>
    rw [DataW.trod_step] at h
    unfold DataW.trodStep at h
    simp only [Try.underlying22, Value.cells] at h
    rw [if_pos (by rw [cellsK]; simpa using hs)] at h
    simp only [Option.map_eq_some_iff, cells5] at h
    obtain ⟨ys, hy, _⟩ := h
    have hl : xs.toList.length = 16 := by simpa using hs
    have he : ∀ i, i < 16 → ∃ u : UInt8, xs.toList[i]? = some (.int .u8 (u.toNat : Int)) := fun i hi => by
      obtain ⟨y, hy⟩ := mapM_each hy i (by simpa using hi)
      obtain ⟨a, ea, _, wa⟩ := DataW.trod_int Try.underlying5 hy
      have hb := bounds_u8 wa
      refine ⟨UInt8.ofNat a.toNat, ?_⟩
      rw [ofNat_toNat_int a (by omega) (by omega)]
      rw [Nat.mul_one, List.drop_eq_getElem_cons (by omega), List.take_succ_cons, List.take_zero] at ea
      simp only [List.cons.injEq, and_true] at ea
      rw [List.getElem?_eq_getElem (by omega), ea]
    obtain ⟨f, hf⟩ := Deep.choose_lt he
    refine ⟨(List.range 16).map f, ?_, by simp⟩
    apply Array.toList_inj.1
    apply List.ext_getElem?
    intro i
    by_cases hi : i < 16
    · rw [hf i hi]
      simp [cs, hi]
    · rw [List.getElem?_eq_none (by omega), List.getElem?_eq_none (by simp [cs]; omega)]

end Go.Proofs.Ytfgoomlgmepalaa
