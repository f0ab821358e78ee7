/-
  Layer 2, the document's side: Digits, Show, Join.
-/
import Derived.Test.YtifmbhcajlnhbaaDoorPJoin
import Derived.Test.YtifmbhcajlnhbaaDoorRQuote
namespace Go.Proofs.YtifmbhcajlnhbaaDoor
set_option linter.unusedVariables false
open Go.ChangeShapes Go.WideShapes Go.ChangeAt Go.RowKit

theorem bytes_ext {a b : ByteArray} (h : a.data.toList = b.data.toList) : a = b := by
  cases a; cases b
  exact congrArg ByteArray.mk (Array.toList_inj.1 h)
theorem ba_app (a b : ByteArray) : (a ++ b).data.toList = a.data.toList ++ b.data.toList := by rw [ByteArray.data_append, Array.toList_append]
theorem digit_text (d : Nat) (h : d < 10) : strOfNums [((48 : Int) + d)] = ⟨#[UInt8.ofNat (48 + d)]⟩ := by
  unfold strOfNums
  simp only [List.map_cons, List.map_nil]
  rw [show ((48 : Int) + (d : Int)).toNat = 48 + d from by omega]

set_option maxHeartbeats 4000000 in
set_option maxRecDepth 100000 in
theorem rdigits_any (N : Nat) (hN : N ≤ 9223372036854775807) (w : World) :
    Calls Tryd.prog 26 #[.int .i64 N] w fun e w' => e = .returned (.string ⟨(Lib.decDigits N).toArray⟩) ∧ Below w.heap.size w w' := by
  have k1 := conv1
  go_enter Tryd.func26, Tryd.ntmps26
  go_wp2
  go_loopw [0, 3] (fun nv sv wr => ∃ (v : Nat) (x : ByteArray), nv = .int .i64 v ∧ sv = .string x ∧ v ≤ N ∧ Hid (Lib.decDigits N = Lib.decDigits v ++ x.data.toList) ∧ Below w.heap.size w wr) (fun nv _ _ => (intOf nv).toNat)
  case atStart => exact ⟨N, ⟨#[]⟩, rfl, rfl, Nat.le_refl _, Lib.hid (by simp), Below.refl _ _⟩
  case round =>
    obtain ⟨v, x, rfl, rfl, hv, H, hbw⟩ := hrel
    have hx : x.size ≤ 21 := by
      have h1 := Lib.itoa_length_le N (by omega) (by omega)
      rw [Lib.itoa_nonneg, H.out, List.length_append, show x.data.toList.length = x.size from Array.length_toList] at h1
      omega
    by_cases h10 : 10 ≤ v
    · have q : (10 : Int) ≤ v := by omega
      have hs1 : (strOfNums [(48 : Int) + (v : Int) % 10]).size = 1 := by rw [strOfNums_size]; rfl
      have hd := Lib.hid (digit_text (v % 10) (by omega))
      go_wp2
      go_roundw
      case rel =>
        refine ⟨v / 10, strOfNums [(48 : Int) + (v : Int) % 10] ++ x, by go_num, rfl, by omega, Lib.hid ?_, hbw.alloc hbw.size _⟩
        rw [H.out, Lib.decDigits, dif_neg (by omega), ba_app, List.append_assoc, show (48 : Int) + (v : Int) % 10 = 48 + ((v % 10 : Nat) : Int) from by omega, hd.out]
      case measure => simp [intOf]; omega
    · have q : ¬ (10 : Int) ≤ v := by omega
      have hs1 : (strOfNums [(48 : Int) + (v : Int)]).size = 1 := by rw [strOfNums_size]; rfl
      have hd := Lib.hid (digit_text v (by omega))
      have HD : Hid ((⟨(Lib.decDigits N).toArray⟩ : ByteArray) = strOfNums [(48 : Int) + (v : Int)] ++ x) := Lib.hid (bytes_ext (by
        rw [H.out, Lib.decDigits_one (show v < 10 by omega), ba_app, hd.out]))
      go_wp2
      go_ret
      exact ⟨by rw [HD.out]; rfl, hbw.alloc hbw.size _⟩
set_option maxHeartbeats 8000000 in
set_option maxRecDepth 100000 in
theorem rshow_any (k a f : Int) (tx : ByteArray) (n : Int) (ht : tx.size ≤ 1000000) (hn0 : -9223372036854775808 ≤ n) (hn1 : n ≤ 9223372036854775807) (w : World) :
    Calls Tryd.prog 12 #[.agg #[.int .i64 k, .int .i64 a, .int .i64 f, .string tx, .int .i64 n]] w fun e w' => e = .returned (.string (showS k tx n)) ∧ Below w.heap.size w w' := by
  have hb0 := (Below.refl w.heap.size w).alloc (Nat.le_refl _) (.cells #[.int .i64 k, .int .i64 a, .int .i64 f, .string tx, .int .i64 n] 39)
  by_cases k4 : k = 4
  · subst k4
    have hS : Hid (showS 4 tx n = strOfNums (letS tx)) := Lib.hid (by unfold showS; rw [if_pos rfl])
    by_cases h1 : tx.size = 1
    · have ea := atB_eq tx 0 (by omega)
      have hb := tx[0].toNat_lt
      have hl : Hid (showS 4 tx n = (⟨#[39]⟩ ++ strOfNums (esc tx[0].toNat 39)) ++ ⟨#[39]⟩) := Lib.hid (by
        rw [hS.out, ← ea]
        refine bytes_ext ?_
        rw [ba_app, ba_app, nums_list, nums_list]; unfold letS; rw [if_pos h1]; simp)
      have hes := esc_len tx[0].toNat 39
      have hns := strOfNums_size (esc tx[0].toNat 39)
      have q1 : ((tx.size : Int) == 1) = true := by rw [beq_iff_eq]; omega
      have hz : (⟨#[39]⟩ ++ strOfNums (esc tx[0].toNat 39) : ByteArray).size ≤ 5 := by rw [ByteArray.size_append]; show 1 + _ ≤ 5; omega
      have hz1 : (⟨#[39]⟩ : ByteArray).size = 1 := rfl
      go_enter Tryd.func12, Tryd.ntmps12
      go_wp2_with fail
      refine (resc_any (tx[0].toNat : Int) 39 (by omega) (by omega) (by decide) (by decide) _).mono ?_
      rintro e w1 ⟨rfl, hb1⟩
      go_wp2
      go_ret
      exact ⟨by rw [hl.out]; rfl, hb0.trans (hb1.mono hb0.size)⟩
    · have hl : Hid (showS 4 tx n = ⟨#[39, 39]⟩) := Lib.hid (by
        rw [hS.out]; unfold letS; rw [if_neg h1]; rfl)
      have q1 : ((tx.size : Int) == 1) = false := by rw [beq_eq_false_iff_ne]; omega
      go_enter Tryd.func12, Tryd.ntmps12
      go_wp2
      go_ret
      exact ⟨by rw [hl.out]; rfl, hb0⟩
  have x4 : (k == 4) = false := by rw [beq_eq_false_iff_ne]; exact k4
  by_cases k5 : k = 5
  · subst k5
    have hS : Hid (showS 5 tx n = strOfNums (quoAll tx.data.toList)) := Lib.hid (by unfold showS; rw [if_neg (by decide), if_pos rfl])
    go_enter Tryd.func12, Tryd.ntmps12
    go_wp2_with fail
    refine (rquote_any tx ht _).mono ?_
    rintro e w2 ⟨rfl, hb2⟩
    go_wp2
    go_ret
    exact ⟨by rw [hS.out]; rfl, hb0.trans (hb2.mono hb0.size)⟩
  have x5 : (k == 5) = false := by rw [beq_eq_false_iff_ne]; exact k5
  by_cases k3 : k = 3
  · subst k3
    obtain ⟨N, hN⟩ : ∃ N : Nat, max n 0 = N := ⟨(max n 0).toNat, by omega⟩
    have hS : Hid (showS 3 tx n = ⟨(Lib.decDigits N).toArray⟩) := Lib.hid (by unfold showS; rw [if_neg (by decide), if_neg (by decide), if_pos rfl, hN, Lib.itoa_nonneg])
    go_enter Tryd.func12, Tryd.ntmps12
    go_wp2_with fail
    refine (rdigits_any N (by omega) _).mono ?_
    rintro e w2 ⟨rfl, hb2⟩
    go_wp2
    go_ret
    exact ⟨by rw [hS.out]; rfl, hb0.trans (hb2.mono hb0.size)⟩
  have x3 : (k == 3) = false := by rw [beq_eq_false_iff_ne]; exact k3
  by_cases k9 : k = 9
  · subst k9
    have hS : Hid (showS 9 tx n = ⟨#[]⟩) := Lib.hid (by unfold showS; rw [if_neg (by decide), if_neg (by decide), if_neg (by decide), if_pos rfl])
    go_enter Tryd.func12, Tryd.ntmps12
    go_wp2
    go_ret
    exact ⟨by rw [hS.out]; rfl, hb0⟩
  have x9 : (k == 9) = false := by rw [beq_eq_false_iff_ne]; exact k9
  have hS : Hid (showS k tx n = tx) := Lib.hid (by unfold showS; rw [if_neg k4, if_neg k5, if_neg k3, if_neg k9])
  clear k4 k5 k3 k9
  go_enter Tryd.func12, Tryd.ntmps12
  go_wp2
  go_ret
  exact ⟨by rw [hS.out]; rfl, hb0⟩

set_option maxHeartbeats 8000000 in
set_option maxRecDepth 100000 in
theorem rjoin_any (l : List Tw) (v : Value) (hl : l.length ≤ 5000) (hfit : ∀ t ∈ l, t.text.size ≤ 3000 ∧ t.fits) (w : World) (hA : TwArg w v l) :
    Calls Tryd.prog 18 #[v] w fun e w' => e = .returned (.string ⟨(joinB (l.map Tw.shw)).toArray⟩) ∧ Below w.heap.size w w' := by
  have hlen : ∀ k, (joinB ((l.take k).map Tw.shw)).length ≤ 5000 * 12031 := fun k => by
    have h1 := joinB_len 12030 ((l.take k).map Tw.shw) (fun x hx => by
      obtain ⟨t, ht, rfl⟩ := List.mem_map.1 hx
      obtain ⟨f1, f2, f3⟩ := hfit t (List.mem_of_mem_take ht)
      have := showS_size t.kind t.text t.n f2 f3
      show (showS t.kind t.text t.n).data.toList.length ≤ 12030
      rw [show (showS t.kind t.text t.n).data.toList.length = (showS t.kind t.text t.n).size from Array.length_toList]
      omega)
    have h2 : ((l.take k).map Tw.shw).length ≤ 5000 := by simp; omega
    exact Nat.le_trans h1 (Nat.mul_le_mul_right 12031 h2)
  have HL := Lib.hid hlen
  have HF := Lib.hid hfit
  clear hlen hfit
  have hf : ∃ ao cap, v = .slice ao l.length cap := by
    rcases hA with ⟨rfl, rfl⟩ | ⟨a, cap, rfl, _⟩
    · exact ⟨none, 0, rfl⟩
    · exact ⟨some a, cap, rfl⟩
  obtain ⟨ao, cap, rfl⟩ := hf
  go_enter Tryd.func18, Tryd.ntmps18
  go_wp2
  go_loopw [3, 4] (fun sv iv wr => ∃ (k : Nat) (x : ByteArray), k ≤ l.length ∧ iv = .int .i64 k ∧ sv = .string x ∧ Hid (x.data.toList = joinB ((l.take k).map Tw.shw)) ∧ Below w.heap.size w wr) (fun _ iv _ => l.length - (intOf iv).toNat)
  case atStart => exact ⟨0, ⟨#[]⟩, Nat.zero_le _, rfl, rfl, Lib.hid rfl, Below.refl _ _⟩
  case round =>
    obtain ⟨k, x, hk, rfl, rfl, HX, hbw⟩ := hrel
    have hxs : x.size ≤ 5000 * 12031 := by rw [show x.size = x.data.toList.length from Array.length_toList.symm, HX.out]; exact HL.out k
    by_cases hlt : k < l.length
    · obtain ⟨t, ht⟩ : ∃ t, l[k]? = some t := ⟨l[k], List.getElem?_eq_getElem hlt⟩
      obtain ⟨a, rfl, hrows⟩ : ∃ a, ao = some a ∧ TwRows w a l := by
        rcases hA with ⟨e1, rfl⟩ | ⟨a, cap', e1, hr⟩
        · simp at hlt
        · injection e1 with e1 _ _; exact ⟨a, e1, hr⟩
      obtain ⟨c0, c1, c2, c3, c4⟩ := (hrows.on hbw).cells ht
      obtain ⟨f1, f2, f3⟩ := HF.out t (List.mem_of_getElem? ht)
      have hn := Lib.hid (join_next l k t ht)
      obtain ⟨tk, ta, tf, tx, tn⟩ := t
      simp only at c0 c1 c2 c3 c4 f1 f2 f3
      have hss := showS_size tk tx tn f2 f3
      by_cases hk0 : k = 0
      · rw [if_pos hk0] at hn
        have q0 : ¬ (0 : Int) < k := by omega
        have hj0 : Hid (x.data.toList = []) := Lib.hid (by rw [HX.out, hk0]; rfl)
        clear hk0
        go_wp2_with fail
        refine (rshow_any tk ta tf tx tn (by omega) f2 f3 _).mono ?_
        rintro e w2 ⟨rfl, hb2⟩
        go_wp2
        go_roundw
        case rel => exact ⟨k + 1, _, by omega, by go_num, rfl, Lib.hid (by rw [ba_app, hj0.out, hn.out]; rfl), hbw.trans (hb2.mono hbw.size)⟩
        case measure => simp [intOf]; omega
      · rw [if_neg hk0] at hn
        have q0 : (0 : Int) < k := by omega
        have hz1 : (⟨#[32]⟩ : ByteArray).size = 1 := rfl
        have hz2 : (x ++ ⟨#[32]⟩ : ByteArray).size = x.size + 1 := by rw [ByteArray.size_append]; rfl
        go_wp2_with fail
        refine (rshow_any tk ta tf tx tn (by omega) f2 f3 _).mono ?_
        rintro e w2 ⟨rfl, hb2⟩
        go_wp2
        go_roundw
        case rel => exact ⟨k + 1, _, by omega, by go_num, rfl, Lib.hid (by rw [ba_app, ba_app, HX.out, hn.out, List.append_assoc]; rfl), hbw.trans (hb2.mono hbw.size)⟩
        case measure => simp [intOf]; omega
    · have hkk : k = l.length := by omega
      subst hkk
      rw [List.take_length] at HX
      have HX2 : Hid (x = ⟨(joinB (l.map Tw.shw)).toArray⟩) := Lib.hid (bytes_ext (by rw [HX.out]))
      go_wp2
      go_ret
      exact ⟨by rw [← HX2.out]; rfl, hbw⟩
end Go.Proofs.YtifmbhcajlnhbaaDoor
