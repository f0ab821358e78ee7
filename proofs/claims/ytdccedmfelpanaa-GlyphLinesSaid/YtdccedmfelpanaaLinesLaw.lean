/-
  The statement GlyphLines: the lines of a text, with line feeds between them, are the text.
-/
import Derived.Test.YtdccedmfelpanaaPlacesLaw
namespace Go.Proofs.Ytdccedmfelpanaa
open Go.ChangeShapes Go.WideShapes Go.ChangeAt Go.RowKit

/-- a line that ends at a feed: the next one begins behind it -/
theorem next_first {s : ByteArray} {k : Int} {f e f' t' : Nat} (h : Pl.IsLine s.data.toList k f e) (h' : Pl.IsLine s.data.toList (k + 1) f' t') : f' = e + 1 ∧ s.data.toList[e]? = some 10 ∧ t' ≤ s.size := by
  have hl := len_toList s
  obtain ⟨a, b, h1, h2, hno, hend⟩ := h
  obtain ⟨a', b', h1', h2', hno', hend'⟩ := h'
  have hs := Pl.plc_seg s.data.toList f (e - f) (by omega) (fun j hj hj2 => hno j hj (by omega))
  rw [show f + (e - f) = e from by omega] at hs
  rcases hend with he | he
  · exfalso
    have hm := Pl.plc_mono' s.data.toList f' e (by omega) (by omega)
    rw [hs] at hm
    simp at hm
    omega
  · have hlt : e < s.data.toList.length := by
      rcases Nat.lt_or_ge e s.data.toList.length with h | h
      · exact h
      · rw [List.getElem?_eq_none h] at he; cases he
    have hf := Pl.plc_feed s.data.toList e hlt he
    rw [hs] at hf
    refine ⟨Pl.plc_inj s.data.toList f' (e + 1) (by omega) (by omega) ?_, he, by omega⟩
    rw [hf]
    exact Prod.ext (by simp; omega) h2'
/-- no next line: this one ends with the text -/
theorem last_end {s : ByteArray} {k : Int} {f e : Nat} (h : Pl.IsLine s.data.toList k f e) (h' : ∀ i, i ≤ s.size → ((Pl.plc (s.data.toList.take i)).1 : Int) ≠ k + 1) : e = s.size := by
  have hl := len_toList s
  obtain ⟨a, b, h1, h2, hno, hend⟩ := h
  have hs := Pl.plc_seg s.data.toList f (e - f) (by omega) (fun j hj hj2 => hno j hj (by omega))
  rw [show f + (e - f) = e from by omega] at hs
  rcases hend with he | he
  · omega
  · exfalso
    have hlt : e < s.data.toList.length := by
      rcases Nat.lt_or_ge e s.data.toList.length with h | h
      · exact h
      · rw [List.getElem?_eq_none h] at he; cases he
    have hf := Pl.plc_feed s.data.toList e hlt he
    rw [hs] at hf
    refine h' (e + 1) (by omega) ?_
    rw [hf]
    simp
    omega
theorem end_last {s : ByteArray} {k : Int} {f : Nat} (h : Pl.IsLine s.data.toList k f s.size) : ∀ i, i ≤ s.size → ((Pl.plc (s.data.toList.take i)).1 : Int) ≤ k := by
  have hl := len_toList s
  obtain ⟨a, b, h1, h2, hno, hend⟩ := h
  have hs := Pl.plc_seg s.data.toList f (s.size - f) (by omega) (fun j hj hj2 => hno j hj (by omega))
  rw [show f + (s.size - f) = s.size from by omega] at hs
  intro i hi
  have hm := Pl.plc_mono' s.data.toList i s.size hi (by omega)
  rw [hs] at hm
  simp at hm
  omega
theorem IsLine_bound {s : ByteArray} {k : Int} {f e : Nat} (h : Pl.IsLine s.data.toList k f e) : 1 ≤ k ∧ k ≤ f + 1 ∧ e ≤ s.size := by
  have hl := len_toList s
  obtain ⟨a, b, h1, h2, _, _⟩ := h
  have := Pl.plc_bounds s.data.toList f (by omega)
  omega
theorem join_line (s : ByteArray) (e t : Nat) (h1 : e + 1 ≤ t) (h2 : t ≤ s.size) (h : s.data.toList[e]? = some 10) : s.extract 0 e ++ ⟨#[10]⟩ ++ s.extract (e + 1) t = s.extract 0 t := by
  have key : ∀ a b : ByteArray, a.data.toList = b.data.toList → a = b := by
    intro a b hab
    cases a; cases b
    exact congrArg ByteArray.mk (Array.toList_inj.1 hab)
  refine key _ _ ?_
  have hl := len_toList s
  have hlt : e < s.data.toList.length := by omega
  rw [List.getElem?_eq_getElem hlt] at h
  have h10 : s.data.toList[e] = 10 := Option.some.inj h
  simp only [ByteArray.data_append, Array.toList_append, Lib.extract_data, Nat.sub_zero, List.drop_zero]
  rw [show t = (e + 1) + (t - (e + 1)) from by omega, List.take_add, show (e + 1) + (t - (e + 1)) - (e + 1) = t - (e + 1) from by omega, List.take_succ_eq_append_getElem hlt, h10]
theorem whole (s : ByteArray) : s.extract 0 s.size = s := by simp

/-- behind k lines: what was joined is the text up to where line k ends -/
def Joined (s : ByteArray) (t : Value) (k : Nat) : Prop := ∃ f e : Nat, t = .string (s.extract 0 e) ∧ Pl.IsLine s.data.toList k f e

set_option maxHeartbeats 4000000 in
theorem lines_any (s : ByteArray) (hm : s.size ≤ 9223372036854775807) (w : World) :
    Calls Try.prog 7 #[.string s] w fun e w' => e = .returned (.bool true) ∧ Below w.heap.size w w' := by
  by_cases hs : (s.size : Int) ≤ 1000
  · go_enter Try.func7, Try.ntmps7
    go_wp2_with fail
    refine (line_any s (by omega) 1 (by omega) _).mono ?_
    rintro e w1 ⟨(⟨f, t, rfl, h1⟩ | ⟨rfl, h1⟩), hb1⟩
    · have Hf : Hid (f = 0) := by
        refine Lib.hid (Pl.plc_inj s.data.toList f 0 (by rw [len_toList]; have := (IsLine_bound h1).2.2; have := h1.1; omega) (Nat.zero_le _) ?_)
        rw [List.take_zero, Pl.plc_nil]
        exact Prod.ext (by have := h1.2.2.1; simp; omega) h1.2.2.2.1
      have H1 : Hid (Joined s (.string (s.extract f t)) 1) := Lib.hid ⟨f, t, by rw [Hf.out], h1⟩
      clear h1
      go_wp2
      go_loopw [3, 5, 6] (fun tv nv iv wr => ∃ k : Nat, 1 ≤ k ∧ k ≤ s.size + 1 ∧ nv = .int .i64 k ∧ iv = .int .i64 (k + 1) ∧ Hid (Joined s tv k) ∧ Below w.heap.size w wr) (fun _ _ iv _ => s.size + 2 - (intOf iv).toNat)
      case atStart => exact ⟨1, by omega, by omega, rfl, rfl, H1, hb1⟩
      case round =>
        obtain ⟨k, k1, k2, rfl, rfl, HJ, hbr⟩ := hrel
        obtain ⟨f', e', rfl, hi⟩ := HJ.out
        obtain ⟨c1, c2, c3⟩ := IsLine_bound hi
        have Hi := Lib.hid hi
        clear hi HJ H1
        by_cases hlt : k ≤ s.size
        · go_wp2_with fail
          refine (line_any s (by omega) (k + 1) (by omega) _).mono ?_
          rintro e w2 ⟨(⟨f2, t2, rfl, h2⟩ | ⟨rfl, h2⟩), hb2⟩
          · obtain ⟨rfl, e2, c4⟩ := next_first Hi.out h2
            have c5 := h2.1
            have E := Lib.hid (join_line s e' t2 (by have := h2.1; omega) c4 e2)
            have H2 : Hid (Joined s (.string (s.extract 0 t2)) (k + 1)) := Lib.hid ⟨_, _, rfl, h2⟩
            have c6 := (IsLine_bound h2).2
            clear h2 e2
            go_wp2
            go_roundw
            case rel => exact ⟨k + 1, by omega, by omega, by go_num, by go_num, by rw [E.out]; exact H2, hbr.trans (hb2.mono hbr.size)⟩
            case measure => simp [intOf]; omega
          · have e2 := last_end Hi.out h2
            subst e2
            have H2 := Lib.hid h2
            have hw := whole s
            clear h2
            go_wp2_with fail
            refine (line_any s (by omega) (k + 1) (by omega) _).mono ?_
            rintro e w3 ⟨(⟨f3, t3, rfl, h3⟩ | ⟨rfl, _⟩), hb3⟩
            · exact absurd h3.2.2.1 (H2.out f3 (by have := h3.1; have := (IsLine_bound h3).2.2; omega))
            go_wp2_with fail
            refine (line_any s (by omega) 0 (by omega) _).mono ?_
            rintro e w4 ⟨(⟨f4, t4, rfl, h4⟩ | ⟨rfl, _⟩), hb4⟩
            · exact absurd (IsLine_bound h4).1 (by omega)
            go_wp2_with fail
            refine (knows_any _).mono ?_
            rintro e w5 ⟨rfl, hb5⟩
            go_wp2
            go_ret
            exact ⟨rfl, hbr.trans ((hb2.mono hbr.size).trans ((hb3.mono (by have := hbr.size; have := hb2.size; omega)).trans ((hb4.mono (by have := hbr.size; have := hb2.size; have := hb3.size; omega)).trans (hb5.mono (by have := hbr.size; have := hb2.size; have := hb3.size; have := hb4.size; omega)))))⟩
        · have e2 : e' = s.size := by have := Hi.out.1; omega
          subst e2
          have H2 := Lib.hid (end_last Hi.out)
          have hw := whole s
          go_wp2_with fail
          refine (line_any s (by omega) (k + 1) (by omega) _).mono ?_
          rintro e w3 ⟨(⟨f3, t3, rfl, h3⟩ | ⟨rfl, _⟩), hb3⟩
          · have h5 := H2.out f3 (by have := h3.1; have := (IsLine_bound h3).2.2; omega)
            have h6 := h3.2.2.1
            omega
          go_wp2_with fail
          refine (line_any s (by omega) 0 (by omega) _).mono ?_
          rintro e w4 ⟨(⟨f4, t4, rfl, h4⟩ | ⟨rfl, _⟩), hb4⟩
          · exact absurd (IsLine_bound h4).1 (by omega)
          go_wp2_with fail
          refine (knows_any _).mono ?_
          rintro e w5 ⟨rfl, hb5⟩
          go_wp2
          go_ret
          exact ⟨rfl, hbr.trans ((hb3.mono hbr.size).trans ((hb4.mono (by have := hbr.size; have := hb3.size; omega)).trans (hb5.mono (by have := hbr.size; have := hb3.size; have := hb4.size; omega))))⟩
    · exact absurd (by simp [Pl.plc_nil]) (h1 0 (Nat.zero_le _))
  · go_enter Try.func7, Try.ntmps7
    go_wp2_with fail
    refine (knows_any _).mono ?_
    rintro e w3 ⟨rfl, hb3⟩
    go_wp2
    go_ret
    exact ⟨rfl, hb3⟩
end Go.Proofs.Ytdccedmfelpanaa
