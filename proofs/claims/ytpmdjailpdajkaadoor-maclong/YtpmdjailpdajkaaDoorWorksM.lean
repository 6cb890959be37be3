/-
  The contract of 'works', the smoke that all statements of layer 3 end with: it answers true, and turns nothing that was there. Condition: the package's constants lie where they were laid.
-/
import Derived.Test.YtpmdjailpdajkaaDoorRefExpand
namespace Go.Proofs.YtpmdjailpdajkaaDoor
open Go.RowKit

theorem oExpandL (w : World) (hK : Kon w) {a p : Option Addr} {n c pn pc : Nat} {l : List UInt8} {ls : List (List UInt8)} (ha : Bs w a n c l) (hz : n ≤ 90000) (k : Nat) (hk : k ≤ 8160) (hp : Bss w p pn pc ls) (hn : pn ≤ 1000) (ht : tot ls ≤ 80000) :
    Calls Tryd.prog 14 #[.slice a n c, .int .i64 (k : Int), .slice p pn pc] w fun e w' => ∃ a' c', e = .returned (.slice a' k c') ∧ Bs w' a' k c' (expL l ls.flatten k) ∧ Below w.heap.size w w' := by
  refine (oExpand w hK ha hz (k : Int) (by omega) (by omega) hp hn ht).mono ?_
  rintro e w' ⟨a', m', c', rfl, hB, hb⟩
  have e : expI l ls.flatten (k : Int) = expL l ls.flatten k := by unfold expI; rw [if_neg (by omega), Int.toNat_natCast]
  rw [e] at hB
  have h1 := hB.len
  rw [expL_length] at h1
  subst h1
  exact ⟨a', c', rfl, hB, hb⟩
theorem oDeriveL (w : World) (hK : Kon w) {a b p : Option Addr} {n c m q pn pc : Nat} {l t : List UInt8} {ls : List (List UInt8)} (ha : Bs w a n c t) (hz : n ≤ 80000) (hb : Bs w b m q l) (hm : m ≤ 80000) (k : Nat) (hk : k ≤ 8160) (hp : Bss w p pn pc ls) (hn : pn ≤ 1000) (ht : tot ls ≤ 80000) :
    Calls Tryd.prog 16 #[.slice a n c, .slice b m q, .int .i64 (k : Int), .slice p pn pc] w fun e w' => ∃ a' c', e = .returned (.slice a' k c') ∧ Below w.heap.size w w' := by
  refine (oDerive w hK ha hz hb hm (k : Int) (by omega) (by omega) hp hn ht).mono ?_
  rintro e w' ⟨a', m', c', rfl, hB, hb⟩
  have e : expI (macL l t) ls.flatten (k : Int) = expL (macL l t) ls.flatten k := by unfold expI; rw [if_neg (by omega), Int.toNat_natCast]
  rw [e] at hB
  have h1 := hB.len
  rw [expL_length] at h1
  subst h1
  exact ⟨a', c', rfl, hb⟩

theorem Bss.nil (w : World) : Bss w none 0 0 [] := ⟨rfl, Nat.le_refl _, Nat.zero_le _, fun i hi => by omega⟩
theorem conv3 (w : World) (o p : Obj) (C : Array Value) (n c : Nat) : Sem.run Tryd.prog (convert 22 22 (.slice (some ⟨w.heap.size + 1 + 1, 0, none⟩) n c)) (((w.alloc o).alloc p).alloc (.cells C 5)) = .ok (.slice (some ⟨w.heap.size + 1 + 1, 0, none⟩) n c) (((w.alloc o).alloc p).alloc (.cells C 5 (C.size, C.size + 1))) := by
  have := Lib.run_convert_bytes_const (P := Tryd.prog) ((w.alloc o).alloc p) 22 5 C n c Tryd.underlying22 Tryd.underlying5
  simp only [World.size_alloc] at this
  exact this

def jefeK : List UInt8 := [74, 101, 102, 101]
def jefeA : List UInt8 := [119, 104, 97, 116, 32, 100, 111, 32, 121, 97, 32, 119, 97, 110, 116, 32]
def jefeB : List UInt8 := [102, 111, 114, 32, 110, 111, 116, 104, 105, 110, 103, 63]
def jefeD : List UInt8 := [91, 220, 193, 70, 191, 96, 117, 78, 106, 4, 36, 38, 8, 149, 117, 199, 90, 0, 63, 8, 157, 39, 57, 131, 157, 236, 88, 185, 100, 236, 56, 67]
theorem jefe_mac : macL jefeK (jefeA ++ jefeB) = jefeD := mac_jefe
theorem jefe_hex : hexL jefeD = [53, 98, 100, 99, 99, 49, 52, 54, 98, 102, 54, 48, 55, 53, 52, 101, 54, 97, 48, 52, 50, 52, 50, 54, 48, 56, 57, 53, 55, 53, 99, 55, 53, 97, 48, 48, 51, 102, 48, 56, 57, 100, 50, 55, 51, 57, 56, 51, 57, 100, 101, 99, 53, 56, 98, 57, 54, 52, 101, 99, 51, 56, 52, 51] := by decide
abbrev jA : Array Value := #[.int .u8 74, .int .u8 101, .int .u8 102, .int .u8 101]
abbrev jB : Array Value := #[.int .u8 119, .int .u8 104, .int .u8 97, .int .u8 116, .int .u8 32, .int .u8 100, .int .u8 111, .int .u8 32, .int .u8 121, .int .u8 97, .int .u8 32, .int .u8 119, .int .u8 97, .int .u8 110, .int .u8 116, .int .u8 32]
abbrev jC : Array Value := #[.int .u8 102, .int .u8 111, .int .u8 114, .int .u8 32, .int .u8 110, .int .u8 111, .int .u8 116, .int .u8 104, .int .u8 105, .int .u8 110, .int .u8 103, .int .u8 63]

theorem wMac (w : World) (hK : Kon w) : Calls Tryd.prog 9 #[.slice (some ⟨w.heap.size, 0, none⟩) 4 4, .slice (some ⟨w.heap.size + 1 + 1 + 1, 0, none⟩) 2 2] ((((w.alloc (.cells jA 5 (4, 5))).alloc (.cells jB 5 (16, 17))).alloc (.cells jC 5 (12, 13))).alloc (.cells #[.slice (some ⟨w.heap.size + 1, 0, none⟩) 16 16, .slice (some ⟨w.heap.size + 1 + 1, 0, none⟩) 12 12] 22)) fun e w' =>
    e = .returned (.agg (cs jefeD).toArray) ∧ Below w.heap.size w w' := by
  have b1 := below_alloc w (.cells jA 5 (4, 5))
  have b2 := below_alloc (w.alloc (.cells jA 5 (4, 5))) (.cells jB 5 (16, 17))
  have b3 := below_alloc ((w.alloc (.cells jA 5 (4, 5))).alloc (.cells jB 5 (16, 17))) (.cells jC 5 (12, 13))
  have m1 := ((Bs.marked w jefeK jA (4, 5) rfl (by decide)).below b2 (Nat.le_refl _)).below b3 (Nat.le_refl _)
  have m2 := (Bs.marked (w.alloc (.cells jA 5 (4, 5))) jefeA jB (16, 17) rfl (by decide)).below b3 (Nat.le_refl _)
  have m3 := Bs.marked ((w.alloc (.cells jA 5 (4, 5))).alloc (.cells jB 5 (16, 17))) jefeB jC (12, 13) rfl (by decide)
  have h := Bss.two m2 m3
  have b4 := below_alloc (((w.alloc (.cells jA 5 (4, 5))).alloc (.cells jB 5 (16, 17))).alloc (.cells jC 5 (12, 13))) (.cells #[.slice (some ⟨(w.alloc (.cells jA 5 (4, 5))).heap.size, 0, none⟩) jefeA.length jefeA.length, .slice (some ⟨((w.alloc (.cells jA 5 (4, 5))).alloc (.cells jB 5 (16, 17))).heap.size, 0, none⟩) jefeB.length jefeB.length] 22)
  have m1' := m1.below b4 (Nat.le_refl _)
  have hb : Below w.heap.size w _ := ((b1.trans (b2.mono (by simp))).trans (b3.mono (by simp; omega))).trans (b4.mono (by simp; omega))
  have := oMac _ (hK.below hb hK.lt) m1' (by decide) h (by decide)
  simp only [World.size_alloc] at this hb
  refine this.mono ?_
  rintro e w' ⟨rfl, hb'⟩
  refine ⟨?_, hb.trans (hb'.mono (B' := w.heap.size) (by omega))⟩
  rw [show ([jefeA, jefeB] : List (List UInt8)).flatten = jefeA ++ jefeB from rfl, jefe_mac]

set_option maxHeartbeats 2000000 in
theorem lWorksM (w : World) (hK : Kon w) : Calls Tryd.prog 8 #[] w fun e w' => e = .returned (.bool true) ∧ Below w.heap.size w w' := by
  have kc := fun (w : World) (C : Array Value) (n c : Nat) => Lib.run_convert_bytes_const (P := Tryd.prog) w 22 5 C n c Tryd.underlying22 Tryd.underlying5
  have kc2 := conv2
  have kc3 := conv3
  have HD : Hid ((cs jefeD).length = 32) := by show _ = _; rw [cs_length]; rfl
  have hall := all24
  have CE : Hid (∀ (w : World) (a : Option Addr), Kon w → Bs w a 1 1 [107] → Calls Tryd.prog 14 #[.slice a 1 1, .int .i64 40, .slice none 0 0] w fun e w' => ∃ a' c', e = .returned (.slice a' 40 c') ∧ Below w.heap.size w w') := fun w a hK h => by
    refine (oExpandL w hK h (by omega) 40 (by omega) (Bss.nil w) (by omega) (by simp [tot])).mono ?_
    rintro e w' ⟨a', c', rfl, _, hb⟩
    exact ⟨a', c', rfl, hb⟩
  have CX : Hid (∀ w : World, Kon w → Calls Tryd.prog 13 #[.slice none 0 0, .slice none 0 0] w fun e w' => ∃ g, e = .returned (.slice (some ⟨g, 0, none⟩) 32 32) ∧ Below w.heap.size w w') := fun w hK => by
    refine (oExtract w hK (Bs.nil w) (by omega) (Bs.nil w) (by omega)).mono ?_
    rintro e w' ⟨g, rfl, _, hb⟩
    exact ⟨g, rfl, hb⟩
  have CV : Hid (∀ w : World, Kon w → Calls Tryd.prog 16 #[.slice none 0 0, .slice none 0 0, .int .i64 3, .slice none 0 0] w fun e w' => ∃ a' c', e = .returned (.slice a' 3 c') ∧ Below w.heap.size w w') := fun w hK =>
    oDeriveL w hK (Bs.nil w) (by omega) (Bs.nil w) (by omega) 3 (by omega) (Bss.nil w) (by omega) (by simp [tot])
  go_enter Tryd.func8, Tryd.ntmps8
  go_wp2_with (first
    | (go_at_call 9; go_must (refine (wMac w hK).mono ?_); rintro e w1 ⟨rfl, hb1⟩)
    | (with_reducible refine at_st 26 ?_; refine st' 26 (.tmp 1) (.tmp 9) 32 size24 w1.heap.size 0 _ HD.out cs_one ((Blk.new w1 z24 26).there 0 32 (by decide)) rfl rfl ?_; intro w2 hw2
       have b2 : Blk w2 w1.heap.size (cs jefeD) 26 := by rw [hw2]; exact (Blk.new w1 z24 26).setsW _ (by rw [HD.out]; rfl)
       have hb2 : Below w.heap.size w w2 := by rw [hw2]; exact below_sets hb1.size _ (hb1.alloc hb1.size _) 0
       clear hw2
       have hB2 := b2.bs 0 32 jefeD cs_self (by decide) (by omega))
    | (go_at_call 19; refine (oHex w2 hB2 (by decide)).mono ?_; rintro e w3 ⟨rfl, hb3⟩; rw [jefe_hex]; have q3 := hb2.trans (hb3.mono hb2.size))
    | (go_at_call 14; go_must (refine (CE.out _ _ (hK.below (q3.alloc q3.size _) hK.lt) (Bs.marked w3 [107] #[.int .u8 107] (1, 2) rfl (by simp))).mono ?_); rintro e w4 ⟨a4, c4, rfl, hb4⟩; have q4 := (q3.alloc q3.size (.cells #[.int .u8 107] 5 (1, 2))).trans (hb4.mono (q3.alloc q3.size _).size))
    | (go_at_call 13; go_must (refine (CX.out w4 (hK.below q4 hK.lt)).mono ?_); rintro e w5 ⟨g5, rfl, hb5⟩; have q5 := q4.trans (hb5.mono q4.size))
    | (go_at_call 16; go_must (refine (CV.out w5 (hK.below q5 hK.lt)).mono ?_); rintro e w6 ⟨a6, c6, rfl, hb6⟩; have q6 := q5.trans (hb6.mono q5.size)))
  go_ret
  exact ⟨rfl, q6⟩

end Go.Proofs.YtpmdjailpdajkaaDoor
