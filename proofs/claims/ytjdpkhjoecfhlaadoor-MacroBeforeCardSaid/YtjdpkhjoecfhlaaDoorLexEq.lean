/- Lex: whether two lists of tokens are the same (EqTokens). -/
import Derived.Test.YtjdpkhjoecfhlaaDoorLexAll
import Derived.Test.YtjdpkhjoecfhlaaDoorLexP
import Derived.Test.YtjdpkhjoecfhlaaDoorLexJ
import Derived.Laws.StructEq
import Derived.RegionTactic
namespace Go.Proofs.YtjdpkhjoecfhlaaDoor
open Go.RowKit Go.Maps Go.Shelf

instance : DecidableEq Tk := fun x y =>
  if h : x.k = y.k ∧ x.b = y.b ∧ x.x = y.x ∧ x.a = y.a then isTrue (by cases x; cases y; simp_all) else isFalse (fun e => h (by rw [e]; exact ⟨rfl, rfl, rfl, rfl⟩))
theorem Tk.ext4 {x y : Tk} (h1 : x.k = y.k) (h2 : x.b = y.b) (h3 : x.x = y.x) (h4 : x.a = y.a) : x = y := by cases x; cases y; simp_all

theorem ba_extL {a b : ByteArray} (h : a.data.toList = b.data.toList) : a = b := by
  cases a; cases b; simp_all [Array.toList_inj]

/-- '==' of two tokens -/
theorem run_eqlTk (x y : Tk) (w : World) : (binOp .eql 23 (.agg #[.int .i64 x.k, .string x.b, .string x.x, .int .i64 x.a]) (.agg #[.int .i64 y.k, .string y.b, .string y.x, .int .i64 y.a])).run Tryd.prog w = .ok (.bool (decide (x = y))) w := by
  go_simp
  by_cases h : x = y
  · subst h; simp
  · rw [decide_eq_false h]
    by_cases h1 : x.k = y.k
    · by_cases h2 : x.b = y.b
      · by_cases h3 : x.x = y.x
        · by_cases h4 : x.a = y.a
          · exact absurd (Tk.ext4 h1 h2 h3 h4) h
          · have h4' : ¬ (x.a : Int) = y.a := by omega
            simp [h1, h2, h3, h4']
        · have h3' : ¬ x.x.toList = y.x.toList := fun e => h3 (ba_extL (by rw [ByteArray.toList_eq, ByteArray.toList_eq] at e; exact e))
          simp [h1, h2, h3']
      · have h2' : ¬ x.b.toList = y.b.toList := fun e => h2 (ba_extL (by rw [ByteArray.toList_eq, ByteArray.toList_eq] at e; exact e))
        simp [h1, h2']
    · have h1' : ¬ (x.k : Int) = y.k := by omega
      simp [h1']
theorem run_neqTk (x y : Tk) (w : World) : (binOp .neq 23 (.agg #[.int .i64 x.k, .string x.b, .string x.x, .int .i64 x.a]) (.agg #[.int .i64 y.k, .string y.b, .string y.x, .int .i64 y.a])).run Tryd.prog w = .ok (.bool (!decide (x = y))) w := by
  have h := run_eqlTk x y w
  rw [run_eql_struct] at h
  rw [run_neq_struct]
  cases hr : (Op.equalIn 10000 23 (.agg #[.int .i64 x.k, .string x.b, .string x.x, .int .i64 x.a]) (.agg #[.int .i64 y.k, .string y.b, .string y.x, .int .i64 y.a])).run Tryd.prog w with
  | ok b w' =>
    rw [hr] at h
    simp only [Result.andThen, Result.ok.injEq, Value.bool.injEq] at h ⊢
    exact ⟨by rw [h.1], h.2⟩
  | halt e w' => rw [hr] at h; simp [Result.andThen] at h

/-- the tokens that Scan answers, wherever they lie -/
theorem scanL_len (s : ByteArray) : (scanL s).length ≤ 40000 := by
  unfold scanL
  by_cases h : scanOk s = true
  · rw [if_pos h]
    have h2 : s.size ≤ 200000 ∧ (tokR true 0 s.data.toList).length ≤ 40000 := by simpa [scanOk] using h
    exact h2.2
  · rw [if_neg h]; exact Nat.zero_le _
theorem own_len {w : World} {b n : Nat} {e : TypeId} {k : Nat} {v : Value} {xs : List Value} (h : w.ownsRow b e k v n xs) : ∃ A c, v = .slice A n c := by
  rcases h.2 with ⟨h2, h3⟩ | ⟨g, cap, cur, e1, h3, r⟩
  · exact ⟨none, 0, by rw [h2, h3]⟩
  · exact ⟨_, _, e1⟩

end Go.Proofs.YtjdpkhjoecfhlaaDoor
