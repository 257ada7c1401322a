import Derived.Test.YtjcnhegjiffgpaaGreatDoorRiP
import Derived.Test.YtjcnhegjiffgpaaGreatDoorRiR
import Derived.Test.YtjcnhegjiffgpaaGreatDoorProg
import Derived.KernelRfl
set_option linter.unusedSimpArgs false
set_option linter.unusedVariables false
set_option maxRecDepth 100000
namespace Go.Proofs.YtjcnhegjiffgpaaGreatDoor
open Go.Lift Tryz
def tab:List (TypeId×Ty):=[(2,(.int .i64)),(3,(.int .i64)),(4,.bool),(5,(.int .u8)),(9,.str),(23,(.pair (.int .u8) (.pair (.int .i64) (.pair (.int .i64) (.pair (.int .i64) .unit))))),(24,(.slice (.pair (.int .u8) (.pair (.int .i64) (.pair (.int .i64) (.pair (.int .i64) .unit)))))),(27,(.slice (.pair (.int .u8) (.pair (.int .i64) (.pair (.int .i64) (.pair (.slice (.pair .str (.pair (.int .i64) .unit))) .unit)))))),(28,(.slice .str)),(29,(.slice (.pair .str (.pair (.int .i64) (.pair (.int .i64) (.pair (.slice (.pair .str (.pair (.int .i64) .unit))) (.pair (.slice (.pair (.int .u8) (.pair (.int .i64) (.pair (.int .i64) (.pair (.int .i64) .unit))))) (.pair (.slice (.pair (.int .i64) (.pair (.int .u64) .unit))) (.pair (.slice (.pair (.int .i64) (.pair (.int .u64) .unit))) .unit))))))))),(31,(.pair (.slice (.pair (.int .u8) (.pair (.int .i64) (.pair (.int .i64) (.pair (.slice (.pair .str (.pair (.int .i64) .unit))) .unit))))) (.pair (.slice .str) (.pair (.slice (.pair .str (.pair (.int .i64) (.pair (.int .i64) (.pair (.slice (.pair .str (.pair (.int .i64) .unit))) (.pair (.slice (.pair (.int .u8) (.pair (.int .i64) (.pair (.int .i64) (.pair (.int .i64) .unit))))) (.pair (.slice (.pair (.int .i64) (.pair (.int .u64) .unit))) (.pair (.slice (.pair (.int .i64) (.pair (.int .u64) .unit))) .unit)))))))) .unit)))),(33,(.int .i64)),(35,(.slice (.pair .str (.pair (.int .i64) .unit)))),(36,(.slice (.pair (.int .i64) (.pair (.int .u64) .unit)))),(38,(.pair .str (.pair (.int .i64) (.pair (.int .i64) (.pair (.slice (.pair .str (.pair (.int .i64) .unit))) (.pair (.slice (.pair (.int .u8) (.pair (.int .i64) (.pair (.int .i64) (.pair (.int .i64) .unit))))) (.pair (.slice (.pair (.int .i64) (.pair (.int .u64) .unit))) (.pair (.slice (.pair (.int .i64) (.pair (.int .u64) .unit))) .unit)))))))),(39,(.int .u64)),(41,(.pair (.int .i64) (.pair (.int .u64) .unit))),(44,(.slice (.int .i64))),(63,(.slice (.int .u8))),(67,(.pair (.int .u8) (.pair (.int .i64) (.pair (.int .i64) (.pair (.slice (.pair .str (.pair (.int .i64) .unit))) .unit))))),(69,(.pair .str (.pair (.int .i64) .unit))),(71,.fn),(78,(.pair (.pair (.slice (.pair (.int .u8) (.pair (.int .i64) (.pair (.int .i64) (.pair (.slice (.pair .str (.pair (.int .i64) .unit))) .unit))))) (.pair (.slice .str) (.pair (.slice (.pair .str (.pair (.int .i64) (.pair (.int .i64) (.pair (.slice (.pair .str (.pair (.int .i64) .unit))) (.pair (.slice (.pair (.int .u8) (.pair (.int .i64) (.pair (.int .i64) (.pair (.int .i64) .unit))))) (.pair (.slice (.pair (.int .i64) (.pair (.int .u64) .unit))) (.pair (.slice (.pair (.int .i64) (.pair (.int .u64) .unit))) .unit)))))))) .unit))) (.pair (.pair .str (.pair (.int .i64) (.pair (.int .i64) (.pair (.slice (.pair .str (.pair (.int .i64) .unit))) (.pair (.slice (.pair (.int .u8) (.pair (.int .i64) (.pair (.int .i64) (.pair (.int .i64) .unit))))) (.pair (.slice (.pair (.int .i64) (.pair (.int .u64) .unit))) (.pair (.slice (.pair (.int .i64) (.pair (.int .u64) .unit))) .unit))))))) .unit))),(108,(.slice (.int .u64))),(130,(.int .u8)),(132,.fn),(139,(.arr 3 (.int .i64))),(142,(.slice .bool)),(145,(.slice (.slice (.int .i64)))),(164,.fn),(167,(.slice (.pair (.int .i64) (.pair (.int .i64) .unit)))),(171,(.pair (.int .i64) (.pair (.int .i64) .unit))),(174,(.arr 3 (.int .u8))),(176,(.pair .str (.pair (.arr 3 (.int .u8)) .unit))),(177,(.arr 35 (.pair .str (.pair (.arr 3 (.int .u8)) .unit)))),(188,.fn),(190,.fn),(192,.fn),(194,.fn),(215,.fn),(218,.fn),(222,.fn),(229,.mp .str .bool),(231,(.int .u64)),(239,.fn),(240,(.arr 10 (.int .u8))),(241,(.slice (.slice (.int .u8))))]
theorem mixed:prog.follows .mixedOrders=true:=by kernel_rfl
theorem OD:Ii prog tab:=uZ (by kernel_rfl) (by kernel_rfl) (by kernel_rfl)
theorem eO {f:List (FuncId×Cb)} (h:∀ g fn,lk g f=some fn->Bb prog g fn):CJ prog (eN tab f):=⟨OD,h,λ_ _ _=>rfl,mixed,Gv,Gy,Gx⟩
def QAZ:List (TypeId×Ty):=[(2,(.int .i64)),(3,(.int .i64)),(4,.bool),(5,(.int .u8)),(9,.str),(23,(.pair (.int .u8) (.pair (.int .i64) (.pair (.int .i64) (.pair (.int .i64) .unit))))),(24,(.slice (.pair (.int .u8) (.pair (.int .i64) (.pair (.int .i64) (.pair (.int .i64) .unit)))))),(27,(.slice (.pair (.int .u8) (.pair (.int .i64) (.pair (.int .i64) (.pair (.slice (.pair .str (.pair (.int .i64) .unit))) .unit)))))),(28,(.slice .str)),(29,(.slice (.pair .str (.pair (.int .i64) (.pair (.int .i64) (.pair (.slice (.pair .str (.pair (.int .i64) .unit))) (.pair (.slice (.pair (.int .u8) (.pair (.int .i64) (.pair (.int .i64) (.pair (.int .i64) .unit))))) (.pair (.slice (.pair (.int .i64) (.pair (.int .u64) .unit))) (.pair (.slice (.pair (.int .i64) (.pair (.int .u64) .unit))) .unit))))))))),(31,(.pair (.slice (.pair (.int .u8) (.pair (.int .i64) (.pair (.int .i64) (.pair (.slice (.pair .str (.pair (.int .i64) .unit))) .unit))))) (.pair (.slice .str) (.pair (.slice (.pair .str (.pair (.int .i64) (.pair (.int .i64) (.pair (.slice (.pair .str (.pair (.int .i64) .unit))) (.pair (.slice (.pair (.int .u8) (.pair (.int .i64) (.pair (.int .i64) (.pair (.int .i64) .unit))))) (.pair (.slice (.pair (.int .i64) (.pair (.int .u64) .unit))) (.pair (.slice (.pair (.int .i64) (.pair (.int .u64) .unit))) .unit)))))))) .unit)))),(33,(.int .i64)),(35,(.slice (.pair .str (.pair (.int .i64) .unit)))),(36,(.slice (.pair (.int .i64) (.pair (.int .u64) .unit)))),(38,(.pair .str (.pair (.int .i64) (.pair (.int .i64) (.pair (.slice (.pair .str (.pair (.int .i64) .unit))) (.pair (.slice (.pair (.int .u8) (.pair (.int .i64) (.pair (.int .i64) (.pair (.int .i64) .unit))))) (.pair (.slice (.pair (.int .i64) (.pair (.int .u64) .unit))) (.pair (.slice (.pair (.int .i64) (.pair (.int .u64) .unit))) .unit)))))))),(39,(.int .u64)),(41,(.pair (.int .i64) (.pair (.int .u64) .unit))),(44,(.nes (.int .i64))),(63,(.slice (.int .u8))),(67,(.pair (.int .u8) (.pair (.int .i64) (.pair (.int .i64) (.pair (.slice (.pair .str (.pair (.int .i64) .unit))) .unit))))),(69,(.pair .str (.pair (.int .i64) .unit))),(71,.fn),(78,(.pair (.pair (.slice (.pair (.int .u8) (.pair (.int .i64) (.pair (.int .i64) (.pair (.slice (.pair .str (.pair (.int .i64) .unit))) .unit))))) (.pair (.slice .str) (.pair (.slice (.pair .str (.pair (.int .i64) (.pair (.int .i64) (.pair (.slice (.pair .str (.pair (.int .i64) .unit))) (.pair (.slice (.pair (.int .u8) (.pair (.int .i64) (.pair (.int .i64) (.pair (.int .i64) .unit))))) (.pair (.slice (.pair (.int .i64) (.pair (.int .u64) .unit))) (.pair (.slice (.pair (.int .i64) (.pair (.int .u64) .unit))) .unit)))))))) .unit))) (.pair (.pair .str (.pair (.int .i64) (.pair (.int .i64) (.pair (.slice (.pair .str (.pair (.int .i64) .unit))) (.pair (.slice (.pair (.int .u8) (.pair (.int .i64) (.pair (.int .i64) (.pair (.int .i64) .unit))))) (.pair (.slice (.pair (.int .i64) (.pair (.int .u64) .unit))) (.pair (.slice (.pair (.int .i64) (.pair (.int .u64) .unit))) .unit))))))) .unit))),(108,(.slice (.int .u64))),(130,(.int .u8)),(132,.fn),(139,(.arr 3 (.int .i64))),(142,(.slice .bool)),(145,(.slice (.nes (.int .i64)))),(164,.fn),(167,(.slice (.pair (.int .i64) (.pair (.int .i64) .unit)))),(171,(.pair (.int .i64) (.pair (.int .i64) .unit))),(174,(.arr 3 (.int .u8))),(176,(.pair .str (.pair (.arr 3 (.int .u8)) .unit))),(177,(.arr 35 (.pair .str (.pair (.arr 3 (.int .u8)) .unit)))),(188,.fn),(190,.fn),(192,.fn),(194,.fn),(215,.fn),(218,.fn),(222,.fn),(229,.mp .str .bool),(231,(.int .u64)),(239,.fn),(240,(.arr 10 (.int .u8))),(241,(.slice (.slice (.int .u8))))]
theorem yD:Ii prog QAZ:=uZ (by kernel_rfl) (by kernel_rfl) (by kernel_rfl)
abbrev Y0:Type:=(List Int)×(Int×(Int×((List ((List Int)×(Int×Unit)))×((List (Int×(Int×(Int×(Int×Unit)))))×((List (Int×(Int×Unit)))×((List (Int×(Int×Unit)))×Unit))))))
abbrev Y1:Type:=(List (Int×(Int×(Int×((List ((List Int)×(Int×Unit)))×Unit)))))×((List (List Int))×((List Y0)×Unit))
abbrev Y2:Type:=List Int
abbrev Y3:Type:=List (Int×(Int×(Int×(Int×Unit))))
abbrev Y4:Type:=List (Int×(Int×(Int×((List (Y2×(Int×Unit)))×Unit))))
abbrev Y5:Type:=Int×(Int×Unit)
abbrev Y6:Type:=List (Y2×(Int×Unit))
abbrev Y7:Type:=List Bool
abbrev Y8:Type:=Y1×(Y0×Unit)
abbrev Y9:Type:=List Y5
abbrev Si:Type:=List Y2
abbrev Sj:Type:=Int×(Int×Y5)
abbrev jZ:Type:=Int×(Int×(Int×(Y6×Unit)))
abbrev Y13:Type:=Y8×(Unit×(Si×(Unit×Unit)))
abbrev Y14:Type:=Int×(Unit×(Unit×(Unit×Unit)))
abbrev Ol:Type:=Y2×Int
abbrev jc:Type:=List Y0
abbrev Wx:Type:=Si×Bool
abbrev Y18:Type:=List (Y2×Bool)
abbrev ZC:Type:=Int×Int
abbrev nT:Type:=Y2×Y2×Int
abbrev Y21:Type:=Int×Int×Int
abbrev Y22:Type:=Int×Unit
abbrev Y23:Type:=Y2×Bool
abbrev Z0:Ty:=.pair .str (.pair (.int .i64) (.pair (.int .i64) (.pair (.slice (.pair .str (.pair (.int .i64) .unit))) (.pair (.slice (.pair (.int .u8) (.pair (.int .i64) (.pair (.int .i64) (.pair (.int .i64) .unit))))) (.pair (.slice (.pair (.int .i64) (.pair (.int .u64) .unit))) (.pair (.slice (.pair (.int .i64) (.pair (.int .u64) .unit))) .unit))))))
abbrev Z1:Ty:=.pair (.slice (.pair (.int .u8) (.pair (.int .i64) (.pair (.int .i64) (.pair (.slice (.pair .str (.pair (.int .i64) .unit))) .unit))))) (.pair (.slice .str) (.pair (.slice Z0) .unit))
abbrev Z2:Ty:=.int .i64
abbrev Z3:Ty:=.pair (.int .u8) (.pair Z2 (.pair Z2 (.pair Z2 .unit)))
abbrev Z4:Ty:=.pair (.int .u8) (.pair Z2 (.pair Z2 (.pair (.slice (.pair .str (.pair Z2 .unit))) .unit)))
abbrev Z5:Ty:=.slice Z2
abbrev Z6:Ty:=.pair Z2 (.pair (.int .u64) .unit)
abbrev Z7:Ty:=.pair Z1 (.pair Z0 .unit)
abbrev Z8:Ty:=.slice (.pair .str (.pair Z2 .unit))
abbrev Z9:Ty:=.slice (.int .u64)
abbrev LU:Ty:=.int .u8
abbrev LX:Ty:=.slice Z3
abbrev Sd:Ty:=.slice LU
abbrev Z13:Ty:=.pair Z2 (.pair Z2 .unit)
abbrev VN:Ty:=.slice Z4
abbrev ZF:Ty:=.int .u64
abbrev dA:Ty:=.slice Z6
abbrev yP:Ty:=.slice .bool
abbrev Z18:Ty:=.pair .str (.pair Z2 .unit)
abbrev Z19:Ty:=.arr 3 Z2
abbrev Z20:Ty:=.slice Z5
abbrev Y24:Type:=Int×Y1×Unit×Y4×Si×jc×Y4×Si×jc×Y1×Y2×Int×Int×Unit×Y6×Y3×Y9×Y9×Int
abbrev Y25:Type:=Int×Y1×Y2×Int×Int×Unit×Y6×Y3×Y9×Y9×Y0×Si×Y2
abbrev Y26:Type:=Int×Y2×Int×Int×Y3×Y2×Y2×Int×Y2×Y7×Y3×Y7×Y2
abbrev Y27:Type:=Int×Y1×Unit×Y4×Si×jc×Y4×Si×jc×Y1×Int×Int
abbrev Y28:Type:=Int×Y2×Int×Int×Y2×Y2×Bool×Y3×Y7×Y2×Y3
abbrev Y29:Type:=Y2×Int×Int×Y4×Int×Int×Y6×Int×Int×Y2
abbrev Y30:Type:=Int×Y3×Bool×Int×Y2×Int×Y1×Si×Y7×Y2
abbrev Y31:Type:=Y3×Y2×Y2×Int×Y2×Y7×Y3×Y7×Y2
abbrev Y32:Type:=Y2×Int×Int×Y3×Y2×Y2×Int×Bool
abbrev Y33:Type:=Int×Int×Y2×Y2×Int×Y3×Int×Int
abbrev Y34:Type:=Y3×Int×Int×Int×Int×Y2×Y2×Y7
abbrev Y35:Type:=Y4×Int×Int×Int×Int×Y2×Y2×Y2
abbrev Y36:Type:=Int×Y2×Int×Int×Y7×Y3×Y7×Y2
abbrev Y37:Type:=Int×Y3×Bool×Int×Y1×Si×Y7
abbrev Y38:Type:=Y3×Int×Int×Y3×Int×Int×Y2
abbrev Y39:Type:=Y3×Bool×Int×Int×Y7×Y2×Y2
abbrev Y40:Type:=Y2×Y2×Y6×Int×Int×Int×Y2
abbrev Y41:Type:=Y9×Y6×Int×Int×Y5×Y2×Y5
abbrev Y42:Type:=Y2×Y2×Bool×Y3×Y7×Y2×Y3
abbrev Y43:Type:=Int×Y2×Int×Y1×Y2×Y2×Y2
abbrev Y44:Type:=Y3×Bool×Int×Int×Y7×Y2
abbrev Y45:Type:=Int×Y3×Bool×Y1×Si×Y7
abbrev Y46:Type:=Y2×Y2×Int×Int×Si×Y8
abbrev Y47:Type:=Y3×Int×Int×Int×Y7×Y2
abbrev Y48:Type:=Int×Int×Int×Y1×Y0×Y7
abbrev Y49:Type:=Y2×Y3×Int×Int×Y8×Y2
abbrev Y50:Type:=Int×Y2×Int×Y1×Y2×Y2
abbrev Y51:Type:=jc×Int×jc×Int×Int
abbrev Y52:Type:=Si×Int×Si×Int×Int
abbrev Y53:Type:=Int×Y6×Int×Int×Y18
abbrev Y54:Type:=Int×Nat×Nat×Int×Y2
abbrev Y55:Type:=Int×Int×Int×Y1×Y0
abbrev Y56:Type:=Y6×Int×Y6×Int×Int
abbrev Y57:Type:=Int×Y9×Int×Int×Y2
abbrev Y58:Type:=Si×Int×Int×Y2×Y1
abbrev Y59:Type:=Int×Int×Y8×Sj×Y2
abbrev Y60:Type:=Y2×Int×Int×Y8×Int
abbrev Y61:Type:=Y2×Int×Y2×Int×Int
abbrev Y62:Type:=Y2×Int×Int×Y8×Si
abbrev Y63:Type:=Y2×jc×Int×Int×Y1
abbrev Y64:Type:=Int×Int×Y1×Sj×Y2
abbrev Y65:Type:=Y3×Bool×Int×Y7×Y2
abbrev Y66:Type:=Y2×Y4×Int×Int×Y2
abbrev Y67:Type:=Y3×Int×Int×Y2×Y0
abbrev Y68:Type:=Y6×Int×Int×Y2×Y0
abbrev Y69:Type:=Y4×Int×Int×Y2×Y1
abbrev Y70:Type:=Y3×Int×Int×Y8×Y7
abbrev Y71:Type:=Y4×Int×Int×Y2×Y2
abbrev Y72:Type:=Int×Int×Y1×Y2×Y0
abbrev Y73:Type:=Int×Int×Y0×Y2×Y2
abbrev Y74:Type:=Y2×Int×Int×Y8×Y2
abbrev Y75:Type:=Y2×Int×Y2×Y2×Y2
abbrev Y76:Type:=Y2×Int×Int×Int
abbrev Y77:Type:=Si×Int×Int×Y2
abbrev Y78:Type:=Y3×Bool×Int×Y7
abbrev Y79:Type:=Y6×Int×Int×Y2
abbrev Y80:Type:=Y3×Y2×Y2×Bool
abbrev Y81:Type:=Y3×Int×Int×Y2
abbrev Y82:Type:=Y2×Int×Int×Y2
abbrev Y83:Type:=Y3×Bool×Y7×Y2
abbrev Y84:Type:=Y2×Int×Y2×Y2
abbrev Y85:Type:=Y7×Y3×Y7×Y2
abbrev Y86:Type:=Y4×Int×Int
abbrev Y87:Type:=Int×Int×Y1
abbrev Y88:Type:=Y2×Int×Int
abbrev Y89:Type:=Y3×Int×Int
abbrev Y90:Type:=Y9×Int×Int
abbrev Y91:Type:=Y3×Bool×Y7
abbrev Y92:Type:=Y1×Int×Int
abbrev Y93:Type:=Y4×Int×Y2
abbrev Y94:Type:=Y2×Int×Y2
abbrev Wp:Type:=Int×Y1×Y2
abbrev Y96:Type:=Int×Y1×Y1
abbrev vX:Type:=Int×Int
abbrev ZE:Type:=Y4×Int
abbrev aI:Type:=Int×Y1
def Tz3:LT:=lT [(3,[1,2,3,4])]
def Qbz:LT:=lT [(3,[1,5,10,11,12])]
def Qc8:LT:=lT [(3,[1,5,10,11,12])]
def QcB:LT:=lT [(3,[0,2,13,14,15])]
def QYX:LT:=lT [(3,[0,2,13,14,15])]
def QcD:LT:=lT [(3,[0,2,13,14,15])]
def QcE:LT:=lT [(3,[0,2,13,14,15])]
def QcG:LT:=lT [(3,[0,2,13,14,15])]
def QcI:LT:=lT []
def QYa:LT:=lK [(3,[1,4,13,14])] [(25,[1,4,13,14])]
def QcP:LT:=lT [(4,[0,3]),(9,[0,3,4,5])]
def QSZ:LT:={ live:=[(3,[0,1,3,4]),(7,[0,1,3,4,5,30,31,32])],keep:=[(39,[0,1,3,4,5,7,30,31,32])],stk:=[4] }
def QSa:LT:=lT []
def QcR:LT:=lT []
def QcS:LT:=lK [] [(12,[2]),(18,[3])]
def QcU:LT:=lT []
def QcY:LT:=lT []
def QMp:LT:=lK [(2,[0,1,7,8])] [(16,[0,1,5,7,8])]
def QMq:LT:=lK [] [(7,[])]
def QF2:LT:=lT [(6,[2,3,6,43,44,45])]
def QXv:LT:=lT []
def QXx:LT:=lT []
def Tz4:LT:=lT []
noncomputable def Ez4:=eN tab []
def U9 (x:vX):Option Bool:=
 bif decide (x.1>=0) then some (decide (x.1 < x.2)) else some false
def CK (x:vX):Option Bool:=U9 x
def Gz4:Cb:=⟨[Z2,Z2],[.bool],[false],λx=>CK x⟩
theorem Lz4:Bb prog 199 Gz4:=DV Ez4 Tz4 (λ_=>CK) (eO BS) func199
def Tz5:LT:=lT []
noncomputable def Ez5:=eN tab []
def TJ (x:Int):Option Bool:=
 bif decide (x>=97) then bif decide (x<=122) then some true else bif decide (x>=65) then some (decide (x<=90)) else some false else bif decide (x>=65) then some (decide (x<=90)) else some false
def J9 (x:Int):Option Bool:=TJ x
def Gz5:Cb:=⟨[LU],[.bool],[false],λx=>J9 x⟩
theorem Lz5:Bb prog 206 Gz5:=DV Ez5 Tz5 (λ_=>J9) (eO BS) func206
def Tz6:LT:=lT []
noncomputable def Ez6:=eN tab []
def U8 (x:Int):Option Bool:=
 bif decide (x>=48) then some (decide (x<=57)) else some false
def O8 (x:Int):Option Bool:=U8 x
def Gz6:Cb:=⟨[LU],[.bool],[false],λx=>O8 x⟩
theorem Lz6:Bb prog 207 Gz6:=DV Ez6 Tz6 (λ_=>O8) (eO BS) func207
def Tz7:LT:=lT [(4,[0,18,19])]
noncomputable def Ez7:=eN tab [(206,Gz5),(207,Gz6)]
noncomputable def QFV (v:Y88):St:=⟨[sV 0 .str v.1,sV 18 Z2 v.2.1,sV 19 Z2 v.2.2],[],[],4096⟩
def L9 (BM:Y88->Option Bool) (v:Y88):Option Bool:=
 bif decide (v.2.2 < v.2.1) then (BX v.1 v.2.2).bind λx3=>((J9 x3).bind λx4=>bif !x4 then (BX v.1 v.2.2).bind λx5=>((O8 x5).bind λx6=>bif !x6 then some false else let x7:Int:=IntKind.i64.wrap (v.2.2+1);BM (v.1,v.2.1,x7)) else let x8:Int:=IntKind.i64.wrap (v.2.2+1);BM (v.1,v.2.1,x8)) else some true
def Lh (N:Nat) (BM:Y88->Option Bool) (v:Y88):Option Bool:=L9 BM v
theorem QYz (N:Nat) (s0) (v):(Bc Ez7 Tz7 6 N f193 [.bool] [false] [] 0 BN) s0 (QFV v)=Lh N (λv=>s0 (QFV v)) v:=by kernel_rfl
def QK (BZ:Y88->Option Bool) (x:Y2):Option Bool:=
 bif R3 .str x ([]:List Int) then some false else bif decide ((x.length:Int) > 16) then some false else (BX x (0:Int)).bind λx1=>(J9 x1).bind λx2=>bif !x2 then some false else BZ (x,(x.length:Int),(0:Int))
def O6 (x:Y2):Option Bool:=QK (BP (Lh big) big) x
def Gz7:Cb:=⟨[.str],[.bool],[false],λx=>O6 x⟩
theorem Lz7:Bb prog 193 Gz7:=DV Ez7 Tz7 (λN x=>QK (BP (Lh N) N) x) (eO (BO Lz5 (BO Lz6 BS))) func193 λN x=>Eq.trans (b:=QK (λv=>Bd (Bc Ez7 Tz7 6 N f193 [.bool] [false] [] 0 BN) N (QFV v)) x) (by kernel_rfl) (by rw [funext (BR QFV (QYz N) N)] <;> rfl)
def Tz8:LT:=lT [(5,[1,5,17,18,19])]
noncomputable def Ez8:=eN tab [(193,Gz7),(199,Gz4)]
noncomputable def QFW (v:Y53):St:=⟨[sV 1 Z2 v.1,(5,.mp 0),sV 17 Z8 v.2.1,sV 18 Z2 v.2.2.1,sV 19 Z2 v.2.2.2.1],[(0,.mp .str .bool v.2.2.2.2)],[],4096⟩
def Ht (BM:Y53->Option Bool) (v:Y53):Option Bool:=
 bif decide (v.2.2.2.1 < v.2.2.1) then (BX v.2.1 v.2.2.2.1).bind λx1=>((O6 x1.1).bind λx2=>bif !x2 then some false else bif (@bf .str .bool x1.1 false v.2.2.2.2).1 then some false else (CK (x1.2.1,v.1)).bind λx3=>bif !x3 then some false else let x4:Y18:=@XP .str .bool x1.1 true v.2.2.2.2;let x5:Int:=IntKind.i64.wrap (v.2.2.2.1+1);BM (v.1,v.2.1,v.2.2.1,x5,x4)) else some true
def FV (N:Nat) (BM:Y53->Option Bool) (v:Y53):Option Bool:=Ht BM v
theorem QZ0 (N:Nat) (s0) (v):(Bc Ez8 Tz8 6 N f200 [.bool] [false] [] 0 BN) s0 (QFW v)=FV N (λv=>s0 (QFW v)) v:=by kernel_rfl
def KS (BZ:Y53->Option Bool) (x:Y6×Int):Option Bool:=
 bif decide ((x.1.length:Int) < 1) then some false else bif decide ((x.1.length:Int) > 8) then some false else BZ (x.2,x.1,(x.1.length:Int),(0:Int),([]:List Y23))
def Er (x:Y6×Int):Option Bool:=KS (BP (FV big) big) x
def Gz8:Cb:=⟨[Z8,Z2],[.bool],[false],λx=>Er x⟩
theorem Lz8:Bb prog 200 Gz8:=DV Ez8 Tz8 (λN x=>KS (BP (FV N) N) x) (eO (BO Lz7 (BO Lz4 BS))) func200 λN x=>Eq.trans (b:=KS (λv=>Bd (Bc Ez8 Tz8 6 N f200 [.bool] [false] [] 0 BN) N (QFW v)) x) (by kernel_rfl) (by rw [funext (BR QFW (QZ0 N) N)] <;> rfl)
def Tz9:LT:=lT []
noncomputable def Ez9:=eN tab [(199,Gz4),(200,Gz8)]
def U7 (x:jZ×Int×Int):Option Bool:=
 bif x.1.1==1 then bif x.1.1==1 then bif x.1.2.1==0 then bif x.1.2.2.1==0 then some ((x.1.2.2.2.1.length:Int)==0) else some false else some false else bif x.1.1==4 then bif x.1.1==4 then (CK (x.1.2.1,x.2.2)).bind λx1=>bif x1 then bif x.1.2.2.1==0 then some ((x.1.2.2.2.1.length:Int)==0) else some false else some false else bif x.1.1==6 then (CK (x.1.2.1,x.2.1)).bind λx2=>bif x2 then bif decide (x.1.2.2.1>=1) then bif decide (x.1.2.2.1<=16) then some ((x.1.2.2.2.1.length:Int)==0) else some false else some false else some false else bif x.1.1==5 then bif x.1.2.1==0 then bif x.1.2.2.1==0 then (Er (x.1.2.2.2.1,x.2.1)).bind λx3=>some x3 else some false else some false else some false else bif x.1.1==7 then (CK (x.1.2.1,x.2.2)).bind λx4=>bif x4 then bif x.1.2.2.1==0 then some ((x.1.2.2.2.1.length:Int)==0) else some false else some false else bif x.1.1==6 then (CK (x.1.2.1,x.2.1)).bind λx5=>bif x5 then bif decide (x.1.2.2.1>=1) then bif decide (x.1.2.2.1<=16) then some ((x.1.2.2.2.1.length:Int)==0) else some false else some false else some false else bif x.1.1==5 then bif x.1.2.1==0 then bif x.1.2.2.1==0 then (Er (x.1.2.2.2.1,x.2.1)).bind λx6=>some x6 else some false else some false else some false else bif x.1.1==2 then bif x.1.1==2 then bif x.1.2.1==0 then bif x.1.2.2.1==0 then some ((x.1.2.2.2.1.length:Int)==0) else some false else some false else bif x.1.1==4 then bif x.1.1==4 then (CK (x.1.2.1,x.2.2)).bind λx7=>bif x7 then bif x.1.2.2.1==0 then some ((x.1.2.2.2.1.length:Int)==0) else some false else some false else bif x.1.1==6 then (CK (x.1.2.1,x.2.1)).bind λx8=>bif x8 then bif decide (x.1.2.2.1>=1) then bif decide (x.1.2.2.1<=16) then some ((x.1.2.2.2.1.length:Int)==0) else some false else some false else some false else bif x.1.1==5 then bif x.1.2.1==0 then bif x.1.2.2.1==0 then (Er (x.1.2.2.2.1,x.2.1)).bind λx9=>some x9 else some false else some false else some false else bif x.1.1==7 then (CK (x.1.2.1,x.2.2)).bind λFJ=>bif FJ then bif x.1.2.2.1==0 then some ((x.1.2.2.2.1.length:Int)==0) else some false else some false else bif x.1.1==6 then (CK (x.1.2.1,x.2.1)).bind λFQ=>bif FQ then bif decide (x.1.2.2.1>=1) then bif decide (x.1.2.2.1<=16) then some ((x.1.2.2.2.1.length:Int)==0) else some false else some false else some false else bif x.1.1==5 then bif x.1.2.1==0 then bif x.1.2.2.1==0 then (Er (x.1.2.2.2.1,x.2.1)).bind λKw=>some Kw else some false else some false else some false else bif x.1.1==3 then bif x.1.2.1==0 then bif x.1.2.2.1==0 then some ((x.1.2.2.2.1.length:Int)==0) else some false else some false else bif x.1.1==4 then bif x.1.1==4 then (CK (x.1.2.1,x.2.2)).bind λNC=>bif NC then bif x.1.2.2.1==0 then some ((x.1.2.2.2.1.length:Int)==0) else some false else some false else bif x.1.1==6 then (CK (x.1.2.1,x.2.1)).bind λIh=>bif Ih then bif decide (x.1.2.2.1>=1) then bif decide (x.1.2.2.1<=16) then some ((x.1.2.2.2.1.length:Int)==0) else some false else some false else some false else bif x.1.1==5 then bif x.1.2.1==0 then bif x.1.2.2.1==0 then (Er (x.1.2.2.2.1,x.2.1)).bind λH7=>some H7 else some false else some false else some false else bif x.1.1==7 then (CK (x.1.2.1,x.2.2)).bind λQn=>bif Qn then bif x.1.2.2.1==0 then some ((x.1.2.2.2.1.length:Int)==0) else some false else some false else bif x.1.1==6 then (CK (x.1.2.1,x.2.1)).bind λSg=>bif Sg then bif decide (x.1.2.2.1>=1) then bif decide (x.1.2.2.1<=16) then some ((x.1.2.2.2.1.length:Int)==0) else some false else some false else some false else bif x.1.1==5 then bif x.1.2.1==0 then bif x.1.2.2.1==0 then (Er (x.1.2.2.2.1,x.2.1)).bind λVR=>some VR else some false else some false else some false
def O7 (x:jZ×Int×Int):Option Bool:=U7 x
def Gz9:Cb:=⟨[Z4,Z2,Z2],[.bool],[false],λx=>O7 x⟩
theorem Lz9:Bb prog 183 Gz9:=DV Ez9 Tz9 (λ_=>O7) (eO (BO Lz4 (BO Lz8 BS))) func183
def QJg:LT:=lT [(3,[1,5,14,15,16]),(15,[1,5,6,8,14,15,16,57,58,59])]
noncomputable def QGL (mk:(α:Type)->Nat->α->List α):CO:={ tab:=tab,fs:=[],inl:=[],rep:=mk }
noncomputable def zB (v:Y29):St:=⟨[sV 1 Z5 v.1,(5,.row 0),sV 6 Z2 v.2.1,sV 8 Z2 v.2.2.1,sV 14 VN v.2.2.2.1,sV 15 Z2 v.2.2.2.2.1,sV 16 Z2 v.2.2.2.2.2.1,sV 57 Z8 v.2.2.2.2.2.2.1,sV 58 Z2 v.2.2.2.2.2.2.2.1,sV 59 Z2 v.2.2.2.2.2.2.2.2.1],[(0,.row Z2 v.2.2.2.2.2.2.2.2.2)],[],4096⟩
noncomputable def jk (v:Y66):St:=⟨[sV 1 Z5 v.1,(5,.row 0),sV 14 VN v.2.1,sV 15 Z2 v.2.2.1,sV 16 Z2 v.2.2.2.1],[(0,.row Z2 v.2.2.2.2)],[],4096⟩
def JM (mk:(α:Type)->Nat->α->List α) (BM:Y66->Option Y2) (BQ:Y29->Option Y2) (v:Y29):Option Y2:=
 bif decide (v.2.2.2.2.2.2.2.2.1 < v.2.2.2.2.2.2.2.1) then (BX v.2.2.2.2.2.2.1 v.2.2.2.2.2.2.2.2.1).bind λVT=>bif decide (0<=VT.2.1)&&decide (VT.2.1 < (v.2.2.2.2.2.2.2.2.2.length:Int)) then (nth v.2.2.2.2.2.2.2.2.2 (Int.toNat VT.2.1)).bind λx21=>let Xd:Int:=IntKind.i64.wrap (v.2.2.1+x21);let x23:Int:=IntKind.i64.wrap (v.2.2.2.2.2.2.2.2.1+1);BQ (v.1,v.2.1,Xd,v.2.2.2.1,v.2.2.2.2.1,v.2.2.2.2.2.1,v.2.2.2.2.2.2.1,v.2.2.2.2.2.2.2.1,x23,v.2.2.2.2.2.2.2.2.2) else none else let x24:Int:=if (5001:Int) < v.2.2.1 then (5001:Int) else v.2.2.1;bif decide (0<=v.2.1)&&decide (v.2.1 < (v.2.2.2.2.2.2.2.2.2.length:Int)) then let x25:Y2:=List.set v.2.2.2.2.2.2.2.2.2 (Int.toNat v.2.1) x24;let jT:Int:=IntKind.i64.wrap (v.2.2.2.2.2.1+1);BM (v.1,v.2.2.2.1,v.2.2.2.2.1,jT,x25) else none
def Q5 (mk:(α:Type)->Nat->α->List α) (N:Nat) (BM:Y66->Option Y2) (BQ:Y29->Option Y2) (v:Y29):Option Y2:=JM mk BM BQ v
theorem QSm (mk:(α:Type)->Nat->α->List α) (N:Nat) (s0) (s1) (v):(Bc (QGL mk) QJg 6 N f202 [Z5] [true] [] 1 (CS s0 BN)) s1 (zB v)=Q5 mk N (λv=>s0 (jk v)) (λv=>s1 (zB v)) v:=by kernel_rfl
def GL (mk:(α:Type)->Nat->α->List α) (Ca:Y29->Option Y2) (BM:Y66->Option Y2) (v:Y66):Option Y2:=
 bif decide (v.2.2.2.1 < v.2.2.1) then (BX v.2.1 v.2.2.2.1).bind λx2=>bif x2.1==4 then (BX v.1 x2.2.1).bind λx3=>let x4:Int:=IntKind.i64.wrap ((1:Int)+x3);let x5:Int:=if (5001:Int) < x4 then (5001:Int) else x4;bif decide (0<=v.2.2.2.1)&&decide (v.2.2.2.1 < (v.2.2.2.2.length:Int)) then let x6:Y2:=List.set v.2.2.2.2 (Int.toNat v.2.2.2.1) x5;let x7:Int:=IntKind.i64.wrap (v.2.2.2.1+1);BM (v.1,v.2.1,v.2.2.1,x7,x6) else none else bif x2.1==7 then (BX v.1 x2.2.1).bind λx8=>let x9:Int:=IntKind.i64.wrap ((16:Int) * x8);let FJ:Int:=IntKind.i64.wrap ((1:Int)+x9);let FQ:Int:=if (5001:Int) < FJ then (5001:Int) else FJ;bif decide (0<=v.2.2.2.1)&&decide (v.2.2.2.1 < (v.2.2.2.2.length:Int)) then let Kw:Y2:=List.set v.2.2.2.2 (Int.toNat v.2.2.2.1) FQ;let NC:Int:=IntKind.i64.wrap (v.2.2.2.1+1);BM (v.1,v.2.1,v.2.2.1,NC,Kw) else none else bif x2.1==6 then bif decide (0<=x2.2.1)&&decide (x2.2.1 < (v.2.2.2.2.length:Int)) then (nth v.2.2.2.2 (Int.toNat x2.2.1)).bind λIh=>let H7:Int:=IntKind.i64.wrap (x2.2.2.1 * Ih);let Qn:Int:=IntKind.i64.wrap ((1:Int)+H7);let Sg:Int:=if (5001:Int) < Qn then (5001:Int) else Qn;bif decide (0<=v.2.2.2.1)&&decide (v.2.2.2.1 < (v.2.2.2.2.length:Int)) then let VR:Y2:=List.set v.2.2.2.2 (Int.toNat v.2.2.2.1) Sg;let VL:Int:=IntKind.i64.wrap (v.2.2.2.1+1);BM (v.1,v.2.1,v.2.2.1,VL,VR) else none else none else bif x2.1==5 then Ca (v.1,v.2.2.2.1,(1:Int),v.2.1,v.2.2.1,v.2.2.2.1,x2.2.2.2.1,(x2.2.2.2.1.length:Int),(0:Int),v.2.2.2.2) else let x27:Int:=if (5001:Int) < 1 then (5001:Int) else (1:Int);bif decide (0<=v.2.2.2.1)&&decide (v.2.2.2.1 < (v.2.2.2.2.length:Int)) then let x28:Y2:=List.set v.2.2.2.2 (Int.toNat v.2.2.2.1) x27;let x29:Int:=IntKind.i64.wrap (v.2.2.2.1+1);BM (v.1,v.2.1,v.2.2.1,x29,x28) else none else some v.2.2.2.2
def Ms (mk:(α:Type)->Nat->α->List α) (N:Nat) (BM:Y66->Option Y2) (v:Y66):Option Y2:=GL mk (BP (Q5 mk N BM) N) BM v
theorem QSl (mk:(α:Type)->Nat->α->List α) (N:Nat) (s0) (v):(Bc (QGL mk) QJg 6 N f202 [Z5] [true] [] 0 BN) s0 (jk v)=Ms mk N (λv=>s0 (jk v)) v:=Eq.trans (b:=GL mk (λv=>Bd (Bc (QGL mk) QJg 6 N f202 [Z5] [true] [] 1 (CS s0 BN)) N (zB v)) (λv=>s0 (jk v)) v) (by kernel_rfl) (by rw [funext (BR zB (QSm mk N s0) N)];rfl)
def QL (mk:(α:Type)->Nat->α->List α) (BZ:Y66->Option Y2) (x:Y4×Y2):Option Y2:=
 bif decide (0<=(x.1.length:Int))&&(decide ((x.1.length:Int)<=(x.1.length:Int))&&(decide ((x.1.length:Int)<=68719476736)&&true)) then let x1:Y2:=mk Int (Int.toNat (x.1.length:Int)) (0:Int);BZ (x.2,x.1,(x.1.length:Int),(0:Int),x1) else none
def U0 (mk:(α:Type)->Nat->α->List α) (N:Nat) (x:Y4×Y2):Option Y2:=QL mk (BP (Ms mk N) N) x
theorem Qd9 (mk:(α:Type)->Nat->α->List α) (N:Nat) (x:Y4×Y2):rise (QGL mk) QJg 6 N f202 [VN,Z5] [Z5] [true] x=U0 mk N x:=Eq.trans (b:=QL mk (λv=>Bd (Bc (QGL mk) QJg 6 N f202 [Z5] [true] [] 0 BN) N (jk v)) x) (by kernel_rfl) (by rw [funext (BR jk (QSl mk N) N)];rfl)
def UZ (x:Y4×Y2):Option Y2:=U0 (λ_=>List.replicate) big x
def QVs:Cb:=⟨[VN,Z5],[Z5],[true],λx=>UZ x⟩
theorem Qb9:Bb prog 202 QVs:=rzl (E:=QGL (λ_=>List.replicate)) (U0 (λ_=>List.replicate)) (eO BS) func202 (Qd9 (λ_=>List.replicate))
def QSK:LT:=lT [(3,[0,3,7])]
noncomputable def QMX (mk:(α:Type)->Nat->α->List α):CO:={ tab:=tab,fs:=[(202,QVs)],inl:=[],rep:=mk }
noncomputable def zC (v:Y93):St:=⟨[sV 0 VN v.1,(3,.row 0),sV 7 Z2 v.2.1],[(0,.row Z2 v.2.2)],[],4096⟩
def TA (mk:(α:Type)->Nat->α->List α) (BM:Y93->Option Y2) (v:Y93):Option Y2:=
 bif decide (v.2.1 < 4) then (UZ (v.1,v.2.2)).bind λx2=>let x3:Int:=IntKind.i64.wrap (v.2.1+1);BM (v.1,x3,x2) else some v.2.2
def OL (mk:(α:Type)->Nat->α->List α) (N:Nat) (BM:Y93->Option Y2) (v:Y93):Option Y2:=TA mk BM v
theorem QSn (mk:(α:Type)->Nat->α->List α) (N:Nat) (s0) (v):(Bc (QMX mk) QSK 6 N f185 [Z5] [true] [] 0 BN) s0 (zC v)=OL mk N (λv=>s0 (zC v)) v:=by kernel_rfl
def Rv (mk:(α:Type)->Nat->α->List α) (BZ:Y93->Option Y2) (x:Y4):Option Y2:=
 bif decide (0<=(x.length:Int))&&(decide ((x.length:Int)<=(x.length:Int))&&(decide ((x.length:Int)<=68719476736)&&true)) then let x1:Y2:=mk Int (Int.toNat (x.length:Int)) (0:Int);BZ (x,(0:Int),x1) else none
def WT (mk:(α:Type)->Nat->α->List α) (N:Nat) (x:Y4):Option Y2:=Rv mk (BP (OL mk N) N) x
theorem QdA (mk:(α:Type)->Nat->α->List α) (N:Nat) (x:Y4):rise (QMX mk) QSK 6 N f185 [VN] [Z5] [true] x=WT mk N x:=Eq.trans (b:=Rv mk (λv=>Bd (Bc (QMX mk) QSK 6 N f185 [Z5] [true] [] 0 BN) N (zC v)) x) (by kernel_rfl) (by rw [funext (BR zC (QSn mk N) N)];rfl)
def WG (x:Y4):Option Y2:=WT (λ_=>List.replicate) big x
def QVt:Cb:=⟨[VN],[Z5],[true],λx=>WG x⟩
theorem QbA:Bb prog 185 QVt:=rzl (E:=QMX (λ_=>List.replicate)) (WT (λ_=>List.replicate)) (eO (BO Qb9 BS)) func185 (QdA (λ_=>List.replicate))
def QSL:LT:=lT [(2,[0,1,7,8])]
noncomputable def QRW:=eN tab []
noncomputable def zD (v:Y76):St:=⟨[sV 0 Z5 v.1,sV 1 Z2 v.2.1,sV 7 Z2 v.2.2.1,sV 8 Z2 v.2.2.2],[],[],4096⟩
def Cr (BM:Y76->Option Int) (v:Y76):Option Int:=
 bif decide (v.2.2.2 < v.2.2.1) then (BX v.1 v.2.2.2).bind λx1=>bif v.2.1==x1 then some v.2.2.2 else let x2:Int:=IntKind.i64.wrap (v.2.2.2+1);BM (v.1,v.2.1,v.2.2.1,x2) else some (-1:Int)
def EL (N:Nat) (BM:Y76->Option Int) (v:Y76):Option Int:=Cr BM v
theorem QSo (N:Nat) (s0) (v):(Bc QRW QSL 6 N f201 [Z2] [false] [] 0 BN) s0 (zD v)=EL N (λv=>s0 (zD v)) v:=by kernel_rfl
def FB (BZ:Y76->Option Int) (x:Y2×Int):Option Int:=
 BZ (x.1,x.2,(x.1.length:Int),(0:Int))
def Kr (x:Y2×Int):Option Int:=FB (BP (EL big) big) x
def QVu:Cb:=⟨[Z5,Z2],[Z2],[false],λx=>Kr x⟩
theorem QbB:Bb prog 201 QVu:=DV QRW QSL (λN x=>FB (BP (EL N) N) x) (eO BS) func201 λN x=>Eq.trans (b:=FB (λv=>Bd (Bc QRW QSL 6 N f201 [Z2] [false] [] 0 BN) N (zD v)) x) (by kernel_rfl) (by rw [funext (BR zD (QSo N) N)] <;> rfl)
def Qbr:LT:=lT []
noncomputable def QaR:=eN tab [(201,QVu)]
def Ie (x:Y2×Int):Option Bool:=
 (Kr (x.1,x.2)).bind λx1=>some (decide (x1>=0))
def Dz (x:Y2×Int):Option Bool:=Ie x
def QVv:Cb:=⟨[Z5,Z2],[.bool],[false],λx=>Dz x⟩
theorem QbC:Bb prog 184 QVv:=DV QaR Qbr (λ_=>Dz) (eO (BO QbB BS)) func184
def QSM:LT:=lT [(4,[0,8,9,10])]
noncomputable def QRX:=eN tab [(183,Gz9),(184,QVv),(185,QVt)]
noncomputable def zF (v:Y4×Y4×Int×Int):St:=⟨[sV 0 VN v.1,sV 8 VN v.2.1,sV 9 Z2 v.2.2.1,sV 10 Z2 v.2.2.2],[],[],4096⟩
def Gg (BM:Y4×Y4×Int×Int->Option Int) (v:Y4×Y4×Int×Int):Option Int:=
 bif decide (v.2.2.2 < v.2.2.1) then (BX v.2.1 v.2.2.2).bind λx1=>((O7 (x1,v.2.2.2,(v.1.length:Int))).bind λx2=>bif !x2 then some (8:Int) else let x3:Int:=IntKind.i64.wrap (v.2.2.2+1);BM (v.1,v.2.1,v.2.2.1,x3)) else (WG v.1).bind λx4=>(Dz (x4,(5001:Int))).bind λx5=>bif x5 then some (8:Int) else some (0:Int)
def Lg (N:Nat) (BM:Y4×Y4×Int×Int->Option Int) (v:Y4×Y4×Int×Int):Option Int:=Gg BM v
theorem QSp (N:Nat) (s0) (v):(Bc QRX QSM 6 N f156 [Z2] [false] [] 0 BN) s0 (zF v)=Lg N (λv=>s0 (zF v)) v:=by kernel_rfl
def QJ (BZ:Y4×Y4×Int×Int->Option Int) (x:Y4):Option Int:=
 bif decide ((x.length:Int) > 32) then some (8:Int) else BZ (x,x,(x.length:Int),(0:Int))
def Xt (x:Y4):Option Int:=QJ (BP (Lg big) big) x
def QVw:Cb:=⟨[VN],[Z2],[false],λx=>Xt x⟩
theorem QbD:Bb prog 156 QVw:=DV QRX QSM (λN x=>QJ (BP (Lg N) N) x) (eO (BO Lz9 (BO QbC (BO QbA BS)))) func156 λN x=>Eq.trans (b:=QJ (λv=>Bd (Bc QRX QSM 6 N f156 [Z2] [false] [] 0 BN) N (zF v)) x) (by kernel_rfl) (by rw [funext (BR zF (QSp N) N)] <;> rfl)
def Qbs:LT:=lT []
noncomputable def QaS:=eN tab []
def TK (x:vX):Option Bool:=
 bif decide (x.1>=0) then some (decide (x.1 < x.2)) else some false
def OG (x:vX):Option Bool:=TK x
def QVx:Cb:=⟨[Z2,Z2],[.bool],[false],λx=>OG x⟩
theorem QbE:Bb prog 157 QVx:=DV QaS Qbs (λ_=>OG) (eO BS) func157
def Qbt:LT:=lT []
noncomputable def QaT:=eN tab []
def RL (x:vX):Option Int:=
 let x1:Int:=IntKind.i64.wrap (x.1+x.2);let x2:Int:=IntKind.i64.wrap (x1 - 1);bif x.2==0 then none else let x3:Int:=IntKind.i64.wrap (x2.tdiv x.2);let x4:Int:=IntKind.i64.wrap (x3 * x.2);some x4
def GD (x:vX):Option Int:=RL x
def QRn:Cb:=⟨[Z2,Z2],[Z2],[false],λx=>GD x⟩
theorem QX4:Bb prog 118 QRn:=DV QaT Qbt (λ_=>GD) (eO BS) func118
def QSN:LT:=lT [(4,[0,5,6,7,15,16,17])]
noncomputable def QMY (mk:(α:Type)->Nat->α->List α):CO:={ tab:=tab,fs:=[(118,QRn)],inl:=[],rep:=mk }
noncomputable def zG (v:Y41):St:=⟨[sV 0 (.slice Z13) v.1,(5,.loc 0 []),(6,.row 1),(7,.loc 2 []),sV 15 Z8 v.2.1,sV 16 Z2 v.2.2.1,sV 17 Z2 v.2.2.2.1],[(0,.var Z13 (.val ⟨Z13,v.2.2.2.2.1⟩)),(1,.row Z2 v.2.2.2.2.2.1),(2,.var Z13 (.val ⟨Z13,v.2.2.2.2.2.2⟩))],[],4096⟩
def Gh (mk:(α:Type)->Nat->α->List α) (BM:Y41->Option (Y2×Y5)) (v:Y41):Option (Y2×Y5):=
 bif decide (v.2.2.2.1 < v.2.2.1) then (BX v.2.1 v.2.2.2.1).bind λx3=>(BX v.1 x3.2.1).bind λx4=>((GD (v.2.2.2.2.2.2.1,x4.2.1)).bind λx5=>bif decide (0<=v.2.2.2.1)&&decide (v.2.2.2.1 < (v.2.2.2.2.2.1.length:Int)) then let x6:Y2:=List.set v.2.2.2.2.2.1 (Int.toNat v.2.2.2.1) x5;bif decide (0<=v.2.2.2.1)&&decide (v.2.2.2.1 < (x6.length:Int)) then (nth x6 (Int.toNat v.2.2.2.1)).bind λx7=>let x8:Int:=IntKind.i64.wrap (x7+x4.1);let x9:Int:=if x4.2.1 > (x8,v.2.2.2.2.2.2.2).2.1 then x4.2.1 else (x8,v.2.2.2.2.2.2.2).2.1;let FJ:Y5:=((x8,v.2.2.2.2.2.2.2).1,(x9,(x8,v.2.2.2.2.2.2.2).2.2));let FQ:Int:=IntKind.i64.wrap (v.2.2.2.1+1);BM (v.1,v.2.1,v.2.2.1,FQ,v.2.2.2.2.1,x6,FJ) else none else none) else (GD (v.2.2.2.2.2.2.1,v.2.2.2.2.2.2.2.1)).bind λKw=>some (v.2.2.2.2.2.1,(Kw,v.2.2.2.2.2.2.2))
def Js (mk:(α:Type)->Nat->α->List α) (N:Nat) (BM:Y41->Option (Y2×Y5)) (v:Y41):Option (Y2×Y5):=Gh mk BM v
theorem QSq (mk:(α:Type)->Nat->α->List α) (N:Nat) (s0) (v):(Bc (QMY mk) QSN 6 N f203 [Z5,Z13] [true,false] [] 0 BN) s0 (zG v)=Js mk N (λv=>s0 (zG v)) v:=by kernel_rfl
def M7 (mk:(α:Type)->Nat->α->List α) (BZ:Y41->Option (Y2×Y5)) (x:Y9×Y6):Option (Y2×Y5):=
 bif decide (0<=(x.2.length:Int))&&(decide ((x.2.length:Int)<=(x.2.length:Int))&&(decide ((x.2.length:Int)<=68719476736)&&true)) then let x1:Y2:=mk Int (Int.toNat (x.2.length:Int)) (0:Int);let x2:Y5:=((0:Int),((1:Int),()));BZ (x.1,x.2,(x.2.length:Int),(0:Int),((0:Int),((0:Int),())),x1,x2) else none
def RF (mk:(α:Type)->Nat->α->List α) (N:Nat) (x:Y9×Y6):Option (Y2×Y5):=M7 mk (BP (Js mk N) N) x
theorem QdB (mk:(α:Type)->Nat->α->List α) (N:Nat) (x:Y9×Y6):rise (QMY mk) QSN 6 N f203 [(.slice Z13),Z8] [Z5,Z13] [true,false] x=RF mk N x:=Eq.trans (b:=M7 mk (λv=>Bd (Bc (QMY mk) QSN 6 N f203 [Z5,Z13] [true,false] [] 0 BN) N (zG v)) x) (by kernel_rfl) (by rw [funext (BR zG (QSq mk N) N)];rfl)
def Iy (x:Y9×Y6):Option (Y2×Y5):=RF (λ_=>List.replicate) big x
def QVy:Cb:=⟨[(.slice Z13),Z8],[Z5,Z13],[true,false],λx=>Iy x⟩
theorem QbF:Bb prog 203 QVy:=rzl (E:=QMY (λ_=>List.replicate)) (RF (λ_=>List.replicate)) (eO (BO QX4 BS)) func203 (QdB (λ_=>List.replicate))
def Qbu:LT:=lT []
noncomputable def QaU:=eN tab [(203,QVy)]
def RI (x:jZ×Y9):Option Y5:=
 bif x.1.1==2 then bif x.1.1==2 then let x1:Y5:=((8:Int),((8:Int),()));some x1 else bif x.1.1==3 then let x2:Y5:=((16:Int),((8:Int),()));some x2 else bif x.1.1==7 then let x3:Y5:=((24:Int),((8:Int),()));some x3 else bif x.1.1==6 then (BX x.2 x.1.2.1).bind λx4=>let x5:Int:=IntKind.i64.wrap (x.1.2.2.1 * x4.1);some (x5,(x4.2.1,())) else bif x.1.1==5 then (Iy (x.2,x.1.2.2.2.1)).bind λx6=>some x6.2 else let x7:Y5:=((1:Int),((1:Int),()));some x7 else bif x.1.1==4 then let x8:Y5:=((8:Int),((8:Int),()));some x8 else bif x.1.1==3 then let x9:Y5:=((16:Int),((8:Int),()));some x9 else bif x.1.1==7 then let FJ:Y5:=((24:Int),((8:Int),()));some FJ else bif x.1.1==6 then (BX x.2 x.1.2.1).bind λFQ=>let Kw:Int:=IntKind.i64.wrap (x.1.2.2.1 * FQ.1);some (Kw,(FQ.2.1,())) else bif x.1.1==5 then (Iy (x.2,x.1.2.2.2.1)).bind λNC=>some NC.2 else let Ih:Y5:=((1:Int),((1:Int),()));some Ih
def Mf (x:jZ×Y9):Option Y5:=RI x
def QVz:Cb:=⟨[Z4,(.slice Z13)],[Z13],[false],λx=>Mf x⟩
theorem QbG:Bb prog 186 QVz:=DV QaU Qbu (λ_=>Mf) (eO (BO QbF BS)) func186
def QSO:LT:=lT [(3,[3,6,7,8])]
noncomputable def QRY:=eN tab [(186,QVz)]
noncomputable def zH (v:Y4×Int×Int×Y9):St:=⟨[(3,.row 0),sV 6 VN v.1,sV 7 Z2 v.2.1,sV 8 Z2 v.2.2.1],[(0,.row Z13 v.2.2.2)],[],4096⟩
def Hu (BM:Y4×Int×Int×Y9->Option Y9) (v:Y4×Int×Int×Y9):Option Y9:=
 bif decide (v.2.2.1 < v.2.1) then (BX v.1 v.2.2.1).bind λx1=>((Mf (x1,v.2.2.2)).bind λx2=>let x3:Y9:=([x2]:Y9);bif Nat.ble 1 2&&Nat.ble (List.length v.2.2.2+x3.length) lim then let x4:Int:=IntKind.i64.wrap (v.2.2.1+1);BM (v.1,v.2.1,x4,(List.append v.2.2.2 x3)) else none) else some v.2.2.2
def Hf (N:Nat) (BM:Y4×Int×Int×Y9->Option Y9) (v:Y4×Int×Int×Y9):Option Y9:=Hu BM v
theorem QSr (N:Nat) (s0) (v):(Bc QRY QSO 6 N f158 [(.slice Z13)] [true] [] 0 BN) s0 (zH v)=Hf N (λv=>s0 (zH v)) v:=by kernel_rfl
def KT (BZ:Y4×Int×Int×Y9->Option Y9) (x:Y4):Option Y9:=
 BZ (x,(x.length:Int),(0:Int),([]:List Y5))
def Sr (x:Y4):Option Y9:=KT (BP (Hf big) big) x
def QW0:Cb:=⟨[VN],[(.slice Z13)],[true],λx=>Sr x⟩
theorem QbH:Bb prog 158 QW0:=DV QRY QSO (λN x=>KT (BP (Hf N) N) x) (eO (BO QbG BS)) func158 λN x=>Eq.trans (b:=KT (λv=>Bd (Bc QRY QSO 6 N f158 [(.slice Z13)] [true] [] 0 BN) N (zH v)) x) (by kernel_rfl) (by rw [funext (BR zH (QSr N) N)] <;> rfl)
def Qbw:LT:=lT []
noncomputable def QaW:=eN tab [(156,QVw),(157,QVx),(158,QW0)]
def RJ (x:ZE):Option (Y9×Int):=
 (Xt x.1).bind λx1=>bif x1 != 0 then some (([]:List Y5),x1) else (OG (x.2,(x.1.length:Int))).bind λx2=>bif !x2 then some (([]:List Y5),(2:Int)) else (Sr x.1).bind λx3=>bif decide (0<=x.2)&&decide (x.2 < (x3.length:Int)) then (nth x3 (Int.toNat x.2)).bind λx4=>bif decide (x4.1 > 256) then some (([]:List Y5),(16:Int)) else some (x3,(0:Int)) else none
def Mg (x:ZE):Option (Y9×Int):=RJ x
def QW1:Cb:=⟨[VN,Z2],[(.slice Z13),Z2],[true,false],λx=>Mg x⟩
theorem QbI:Bb prog 117 QW1:=DV QaW Qbw (λ_=>Mg) (eO (BO QbD (BO QbE (BO QbH BS)))) func117
def Qbx:LT:=lT []
noncomputable def QaX:=eN tab [(117,QW1)]
def YI (x:ZE):Option Y21:=
 (Mg (x.1,x.2)).bind λx1=>bif x1.2 != 0 then some ((0:Int),(0:Int),x1.2) else bif decide (0<=x.2)&&decide (x.2 < (x1.1.length:Int)) then (nth x1.1 (Int.toNat x.2)).bind λx2=>bif decide (0<=x.2)&&decide (x.2 < (x1.1.length:Int)) then (nth x1.1 (Int.toNat x.2)).bind λx3=>some (x2.1,x3.2.1,(0:Int)) else none else none
def O9 (x:ZE):Option Y21:=YI x
def QRo:Cb:=⟨[VN,Z2],[Z2,Z2,Z2],[false,false,false],λx=>O9 x⟩
theorem QXT:Bb prog 67 QRo:=DV QaX Qbx (λ_=>O9) (eO (BO QbI BS)) func67
def QSP:LT:=lT [(2,[0,8,9])]
noncomputable def QRZ:=eN tab [(67,QRo)]
noncomputable def zI (v:Y86):St:=⟨[sV 0 VN v.1,sV 8 Z2 v.2.1,sV 9 Z2 v.2.2],[],[],4096⟩
def Pq (BM:Y86->Option Bool) (v:Y86):Option Bool:=
 bif decide (v.2.2 < v.2.1) then (O9 (v.1,v.2.2)).bind λx1=>bif x1.2.2 != 0 then some false else let x2:Int:=IntKind.i64.wrap (v.2.2+1);BM (v.1,v.2.1,x2) else some true
def Ed (N:Nat) (BM:Y86->Option Bool) (v:Y86):Option Bool:=Pq BM v
theorem QSs (N:Nat) (s0) (v):(Bc QRZ QSP 6 N f134 [.bool] [false] [] 0 BN) s0 (zI v)=Ed N (λv=>s0 (zI v)) v:=by kernel_rfl
def KR (BZ:Y86->Option Bool) (x:Y4):Option Bool:=
 BZ (x,(x.length:Int),(0:Int))
def Sq (x:Y4):Option Bool:=KR (BP (Ed big) big) x
def QW2:Cb:=⟨[VN],[.bool],[false],λx=>Sq x⟩
theorem QbJ:Bb prog 134 QW2:=DV QRZ QSP (λN x=>KR (BP (Ed N) N) x) (eO (BO QXT BS)) func134 λN x=>Eq.trans (b:=KR (λv=>Bd (Bc QRZ QSP 6 N f134 [.bool] [false] [] 0 BN) N (zI v)) x) (by kernel_rfl) (by rw [funext (BR zI (QSs N) N)] <;> rfl)
def QSQ:LT:=lT [(4,[8,9,10])]
noncomputable def QRa:=eN tab []
noncomputable def zJ (v:Si×Int×Int):St:=⟨[sV 8 (.slice .str) v.1,sV 9 Z2 v.2.1,sV 10 Z2 v.2.2],[],[],4096⟩
def Pp (BM:Si×Int×Int->Option Bool) (v:Si×Int×Int):Option Bool:=
 bif decide (v.2.2 < v.2.1) then (BX v.1 v.2.2).bind λx1=>bif decide ((x1.length:Int) > 64) then some false else let x2:Int:=IntKind.i64.wrap (v.2.2+1);BM (v.1,v.2.1,x2) else some true
def Ec (N:Nat) (BM:Si×Int×Int->Option Bool) (v:Si×Int×Int):Option Bool:=Pp BM v
theorem QSt (N:Nat) (s0) (v):(Bc QRa QSQ 6 N f135 [.bool] [false] [] 0 BN) s0 (zJ v)=Ec N (λv=>s0 (zJ v)) v:=by kernel_rfl
def KQ (BZ:Si×Int×Int->Option Bool) (x:Si):Option Bool:=
 bif decide ((x.length:Int) > 32) then some false else BZ (x,(x.length:Int),(0:Int))
def Sn (x:Si):Option Bool:=KQ (BP (Ec big) big) x
def QW3:Cb:=⟨[(.slice .str)],[.bool],[false],λx=>Sn x⟩
theorem QbK:Bb prog 135 QW3:=DV QRa QSQ (λN x=>KQ (BP (Ec N) N) x) (eO BS) func135 λN x=>Eq.trans (b:=KQ (λv=>Bd (Bc QRa QSQ 6 N f135 [.bool] [false] [] 0 BN) N (zJ v)) x) (by kernel_rfl) (by rw [funext (BR zJ (QSt N) N)] <;> rfl)
def Qby:LT:=lT []
noncomputable def QaY:=eN tab []
def U5 (x:vX):Option Bool:=
 bif decide (x.1>=0) then some (decide (x.1 < x.2)) else some false
def La (x:vX):Option Bool:=U5 x
def QRp:Cb:=⟨[Z2,Z2],[.bool],[false],λx=>La x⟩
theorem QXU:Bb prog 190 QRp:=DV QaY Qby (λ_=>La) (eO BS) func190
def Qc0:LT:=lT []
noncomputable def QaZ:=eN tab []
def iT (x:(Y2×Y22)):Option Y2:=
 some x.1
def K4 (x:(Y2×Y22)):Option Y2:=iT x
def QW4:Cb:=⟨[Z18],[.str],[false],λx=>K4 x⟩
theorem QbL:Bb prog 205 QW4:=DV QaZ Qc0 (λ_=>K4) (eO BS) func205
def QKJ:LT:=lK [(4,[0,1,10,11,12])] [(23,[])]
noncomputable def QIn:CO:={ tab:=tab,fs:=[(190,QRp),(193,Gz7),(205,QW4)],inl:=[(204,f204,Qbz)] }
noncomputable def QOK (v:Y6×Int×Int×Y18):St:=⟨[(1,.OH 205 .unit),(5,.mp 0),sV 10 Z8 v.1,sV 11 Z2 v.2.1,sV 12 Z2 v.2.2.1],[(0,.mp .str .bool v.2.2.2)],[(4096,[])],16875520⟩
noncomputable def jl (v:Y56):St:=⟨[sV 0 Z8 v.1,sV 1 Z2 v.2.1,sV 10 Z8 v.2.2.1,sV 11 Z2 v.2.2.2.1,sV 12 Z2 v.2.2.2.2],[],[],4096⟩
def Po (BM:Y56->Option Bool) (BQ:Y6×Int×Int×Y18->Option Bool) (v:Y6×Int×Int×Y18):Option Bool:=
 bif decide (v.2.2.1 < v.2.1) then (BX v.1 v.2.2.1).bind λx4=>(K4 x4).bind λx5=>((O6 x5).bind λx6=>bif !x6 then some false else bif (@bf .str .bool x5 false v.2.2.2).1 then some false else let x7:Y18:=@XP .str .bool x5 true v.2.2.2;let x8:Int:=IntKind.i64.wrap (v.2.2.1+1);BQ (v.1,v.2.1,x8,x7)) else some true
def FU (N:Nat) (BM:Y56->Option Bool) (BQ:Y6×Int×Int×Y18->Option Bool) (v:Y6×Int×Int×Y18):Option Bool:=Po BM BQ v
theorem Qcj (N:Nat) (s0:St->Option Bool) (s1) (v):(Bc QIn QKJ 6 N f189 [.bool] [false] [.call 9 1 204] 0 BN) s1 (QOK v)=FU N (λv=>s0 (jl v)) (λv=>s1 (QOK v)) v:=by kernel_rfl
def K8 (Ca:Y6×Int×Int×Y18->Option Bool) (BM:Y56->Option Bool) (v:Y56):Option Bool:=
 bif decide (v.2.2.2.2 < v.2.2.2.1) then (BX v.2.2.1 v.2.2.2.2).bind λx1=>((La (x1.2.1,v.2.1)).bind λx2=>bif !x2 then some false else let x3:Int:=IntKind.i64.wrap (v.2.2.2.2+1);BM (v.1,v.2.1,v.2.2.1,v.2.2.2.1,x3)) else Ca (v.1,(v.1.length:Int),(0:Int),([]:List Y23))
def Eb (N:Nat) (BM:Y56->Option Bool) (v:Y56):Option Bool:=K8 (BP (FU N BM) N) BM v
theorem QSu (N:Nat) (s0) (v):(Bc QIn QKJ 6 N f189 [.bool] [false] [] 0 BN) s0 (jl v)=Eb N (λv=>s0 (jl v)) v:=Eq.trans (b:=K8 (λv=>Bd (Bc QIn QKJ 6 N f189 [.bool] [false] [.call 9 1 204] 0 BN) N (QOK v)) (λv=>s0 (jl v)) v) (by kernel_rfl) (by rw [funext (BR QOK (Qcj N s0) N)];rfl)
def KP (BZ:Y56->Option Bool) (x:Y6×Int):Option Bool:=
 bif decide ((x.1.length:Int) > 16) then some false else BZ (x.1,x.2,x.1,(x.1.length:Int),(0:Int))
def Sl (x:Y6×Int):Option Bool:=KP (BP (Eb big) big) x
def QW5:Cb:=⟨[Z8,Z2],[.bool],[false],λx=>Sl x⟩
theorem QbM:Bb prog 189 QW5:=DV QIn QKJ (λN x=>KP (BP (Eb N) N) x) ⟨OD,(BO QXU (BO Lz7 (BO QbL BS))),λ_ _ _=>rfl,mixed,(Cm (Cj func204 rfl rfl (by kernel_rfl)) Gv),Gy,Gx⟩ func189 λN x=>Eq.trans (b:=KP (λv=>Bd (Bc QIn QKJ 6 N f189 [.bool] [false] [] 0 BN) N (jl v)) x) (by kernel_rfl) (by rw [funext (BR jl (QSu N) N)] <;> rfl)
def Qc1:LT:=lT []
noncomputable def Qaa:=eN tab []
def XK (x:Int):Option Bool:=
 bif decide (x>=1) then some (decide (x<=34)) else some false
def Iz (x:Int):Option Bool:=XK x
def QW6:Cb:=⟨[LU],[.bool],[false],λx=>Iz x⟩
theorem QbN:Bb prog 122 QW6:=DV Qaa Qc1 (λ_=>Iz) (eO BS) func122
def Qc2:LT:=lT []
noncomputable def Qab:=eN tab []
def vM (x:Sj):Option Y2:=
 let x1:Y2:=[x.2.1,x.2.2.1,x.2.2.2.1];some x1
def KZ (x:Sj):Option Y2:=vM x
def QMc:Cb:=⟨[Z3],[Z19],[false],λx=>KZ x⟩
theorem QS5:Bb prog 123 QMc:=DV Qab Qc2 (λ_=>KZ) (eO BS) func123
def Qc3:LT:=lT []
noncomputable def Qac:=eN tab []
def iU (x:vX):Option Bool:=
 bif decide (x.1>=0) then some (decide (x.1 < x.2)) else some false
def Bn (x:vX):Option Bool:=iU x
def QW7:Cb:=⟨[Z2,Z2],[.bool],[false],λx=>Bn x⟩
theorem QbO:Bb prog 160 QW7:=DV Qac Qc3 (λ_=>Bn) (eO BS) func160
def Qc4:LT:=lT []
noncomputable def Qad:=eN tab [(160,QW7)]
def xH (x:vX):Option Bool:=
 bif x.1==5 then some true else bif x.1==3 then bif x.1==3 then bif x.2==(-1:Int) then some true else (Bn (x.2,(16:Int))).bind λx1=>some x1 else bif x.1==1 then bif x.1==1 then (Bn (x.2,(16:Int))).bind λx2=>some x2 else bif x.1==6 then (Bn (x.2,(2:Int))).bind λx3=>some x3 else bif x.1==7 then (Bn (x.2,(32:Int))).bind λx4=>some x4 else bif x.1==8 then (Bn (x.2,(8:Int))).bind λx5=>some x5 else bif x.1==9 then (Bn (x.2,(32:Int))).bind λx6=>some x6 else bif x.1==10 then (Bn (x.2,(200:Int))).bind λx7=>some x7 else some (x.2==0) else bif x.1==2 then (Bn (x.2,(16:Int))).bind λx8=>some x8 else bif x.1==6 then (Bn (x.2,(2:Int))).bind λx9=>some x9 else bif x.1==7 then (Bn (x.2,(32:Int))).bind λFJ=>some FJ else bif x.1==8 then (Bn (x.2,(8:Int))).bind λFQ=>some FQ else bif x.1==9 then (Bn (x.2,(32:Int))).bind λKw=>some Kw else bif x.1==10 then (Bn (x.2,(200:Int))).bind λNC=>some NC else some (x.2==0) else bif x.1==4 then bif x.2==(-1:Int) then some true else (Bn (x.2,(16:Int))).bind λIh=>some Ih else bif x.1==1 then bif x.1==1 then (Bn (x.2,(16:Int))).bind λH7=>some H7 else bif x.1==6 then (Bn (x.2,(2:Int))).bind λQn=>some Qn else bif x.1==7 then (Bn (x.2,(32:Int))).bind λSg=>some Sg else bif x.1==8 then (Bn (x.2,(8:Int))).bind λVR=>some VR else bif x.1==9 then (Bn (x.2,(32:Int))).bind λVL=>some VL else bif x.1==10 then (Bn (x.2,(200:Int))).bind λVT=>some VT else some (x.2==0) else bif x.1==2 then (Bn (x.2,(16:Int))).bind λx21=>some x21 else bif x.1==6 then (Bn (x.2,(2:Int))).bind λXd=>some Xd else bif x.1==7 then (Bn (x.2,(32:Int))).bind λx23=>some x23 else bif x.1==8 then (Bn (x.2,(8:Int))).bind λx24=>some x24 else bif x.1==9 then (Bn (x.2,(32:Int))).bind λx25=>some x25 else bif x.1==10 then (Bn (x.2,(200:Int))).bind λjT=>some jT else some (x.2==0)
def Wy (x:vX):Option Bool:=xH x
def QW8:Cb:=⟨[LU,Z2],[.bool],[false],λx=>Wy x⟩
theorem QbP:Bb prog 124 QW8:=DV Qad Qc4 (λ_=>Wy) (eO (BO QbO BS)) func124
def QSR:LT:=lT [(5,[3,16,17])]
noncomputable def QRb:=eN tab [(122,QW6),(123,QMc),(124,QW8)]
noncomputable def zK (v:Y94):St:=⟨[(3,.loc 0 []),sV 16 (.arr 3 LU) v.1,sV 17 Z2 v.2.1],[(0,.var Z19 (.val ⟨Z19,v.2.2⟩))],[],4096⟩
def X7 (BM:Y94->Option Int) (v:Y94):Option Int:=
 bif decide (v.2.1 < 3) then (BX v.1 v.2.1).bind λx4=>bif decide (0<=v.2.1)&&decide (v.2.1 < 3) then (nth v.2.2 (Int.toNat v.2.1)).bind λx5=>((Wy (x4,x5)).bind λx6=>bif !x6 then some (8:Int) else let x7:Int:=IntKind.i64.wrap (v.2.1+1);BM (v.1,x7,v.2.2)) else none else some (0:Int)
def Pb (N:Nat) (BM:Y94->Option Int) (v:Y94):Option Int:=X7 BM v
theorem QSv (N:Nat) (s0) (v):(Bc QRb QSR 6 N f80 [Z2] [false] [] 0 BN) s0 (zK v)=Pb N (λv=>s0 (zK v)) v:=by kernel_rfl
def VB (BZ:Y94->Option Int) (x:Sj):Option Int:=
 (Iz x.1).bind λx1=>bif !x1 then some (8:Int) else (KZ x).bind λx2=>(BX gl0 x.1).bind λx3=>BZ (x3.2.1,(0:Int),x2)
def Qx (x:Sj):Option Int:=VB (BP (Pb big) big) x
def QJK:Cb:=⟨[Z3],[Z2],[false],λx=>Qx x⟩
theorem QMi:Bb prog 80 QJK:=DV QRb QSR (λN x=>VB (BP (Pb N) N) x) (eO (BO QbN (BO QS5 (BO QbP BS)))) func80 λN x=>Eq.trans (b:=VB (λv=>Bd (Bc QRb QSR 6 N f80 [Z2] [false] [] 0 BN) N (zK v)) x) (by kernel_rfl) (by rw [funext (BR zK (QSv N) N)] <;> rfl)
def QSS:LT:=lT [(4,[13,14,15])]
noncomputable def QRc:=eN tab [(80,QJK)]
noncomputable def zL (v:Y89):St:=⟨[sV 13 LX v.1,sV 14 Z2 v.2.1,sV 15 Z2 v.2.2],[],[],4096⟩
def S9 (BM:Y89->Option Bool) (v:Y89):Option Bool:=
 bif decide (v.2.2 < v.2.1) then (BX v.1 v.2.2).bind λx1=>((Qx x1).bind λx2=>bif x2 != 0 then some false else let x3:Int:=IntKind.i64.wrap (v.2.2+1);BM (v.1,v.2.1,x3)) else some true
def Fe (N:Nat) (BM:Y89->Option Bool) (v:Y89):Option Bool:=S9 BM v
theorem QSw (N:Nat) (s0) (v):(Bc QRc QSS 6 N f191 [.bool] [false] [] 0 BN) s0 (zL v)=Fe N (λv=>s0 (zL v)) v:=by kernel_rfl
def Ny (BZ:Y89->Option Bool) (x:Y3):Option Bool:=
 bif decide ((x.length:Int) < 1) then some false else bif decide ((x.length:Int) > 200) then some false else BZ (x,(x.length:Int),(0:Int))
def RU (x:Y3):Option Bool:=Ny (BP (Fe big) big) x
def QW9:Cb:=⟨[LX],[.bool],[false],λx=>RU x⟩
theorem QbQ:Bb prog 191 QW9:=DV QRc QSS (λN x=>Ny (BP (Fe N) N) x) (eO (BO QMi BS)) func191 λN x=>Eq.trans (b:=Ny (λv=>Bd (Bc QRc QSS 6 N f191 [.bool] [false] [] 0 BN) N (zL v)) x) (by kernel_rfl) (by rw [funext (BR zL (QSw N) N)] <;> rfl)
def Qc5:LT:=lT []
noncomputable def Qae:=eN tab []
def TN (x:Int):Option Bool:=
 bif decide (x>=1) then some (decide (x<=200)) else some false
def KA (x:Int):Option Bool:=TN x
def QRq:Cb:=⟨[Z2],[.bool],[false],λx=>KA x⟩
theorem QXV:Bb prog 154 QRq:=DV Qae Qc5 (λ_=>KA) (eO BS) func154
def Qc6:LT:=lT []
noncomputable def Qaf:=eN tab []
def iV (x:Y5×Y5):Option Bool:=
 some (R3 Z6 (x.2.1,x.1.2) x.2)
def HY (x:Y5×Y5):Option Bool:=iV x
def QRr:Cb:=⟨[Z6,Z6],[.bool],[false],λx=>HY x⟩
theorem QXW:Bb prog 155 QRr:=DV Qaf Qc6 (λ_=>HY) (eO BS) func155
def QST:LT:=lT [(6,[0,32,33])]
noncomputable def QRd:=eN tab [(154,QRq),(155,QRr)]
noncomputable def zM (v:Y90):St:=⟨[sV 0 dA v.1,sV 32 Z2 v.2.1,sV 33 Z2 v.2.2],[],[],4096⟩
def KJ (BM:Y90->Option Int) (v:Y90):Option Int:=
 bif decide (v.2.2 < v.2.1) then (BX v.1 v.2.2).bind λx6=>let x7:Int:=IntKind.i64.wrap (v.2.2+1);((BX v.1 x7).bind λx8=>bif decide (x6.1>=x8.1) then some (8:Int) else (BX v.1 v.2.2).bind λx9=>let FJ:Int:=IntKind.i64.wrap (v.2.2+1);(BX v.1 FJ).bind λFQ=>((HY (x9,FQ)).bind λKw=>bif Kw then some (8:Int) else let NC:Int:=IntKind.i64.wrap (v.2.2+1);BM (v.1,v.2.1,NC))) else some (0:Int)
def KG (N:Nat) (BM:Y90->Option Int) (v:Y90):Option Int:=KJ BM v
theorem QSx (N:Nat) (s0) (v):(Bc QRd QST 6 N f192 [Z2] [false] [] 0 BN) s0 (zM v)=KG N (λv=>s0 (zM v)) v:=by kernel_rfl
def OA (BZ:Y90->Option Int) (x:Y9×Int):Option Int:=
 (KA x.2).bind λx1=>bif !x1 then some (2:Int) else bif (x.1.length:Int)==0 then some (8:Int) else (BX x.1 (0:Int)).bind λx2=>bif x2.1 != 0 then some (8:Int) else let x3:Int:=IntKind.i64.wrap ((x.1.length:Int) - 1);((BX x.1 x3).bind λx4=>bif decide (x4.1>=x.2) then some (8:Int) else let x5:Int:=IntKind.i64.wrap ((x.1.length:Int) - 1);BZ (x.1,x5,(0:Int)))
def IG (x:Y9×Int):Option Int:=OA (BP (KG big) big) x
def QRs:Cb:=⟨[dA,Z2],[Z2],[false],λx=>IG x⟩
theorem QXX:Bb prog 192 QRs:=DV QRd QST (λN x=>OA (BP (KG N) N) x) (eO (BO QXV (BO QXW BS))) func192 λN x=>Eq.trans (b:=OA (λv=>Bd (Bc QRd QST 6 N f192 [Z2] [false] [] 0 BN) N (zM v)) x) (by kernel_rfl) (by rw [funext (BR zM (QSx N) N)] <;> rfl)
def Qc7:LT:=lT []
noncomputable def Qag:=eN tab [(189,QW5),(190,QRp),(191,QW9),(192,QRs)]
def WY (x:Y0×Int):Option Bool:=
 (Sl (x.1.2.2.2.1,x.2)).bind λx1=>bif !x1 then some false else bif decide (x.1.2.1 < 0) then some false else bif decide (x.1.2.1 > (x.1.2.2.2.1.length:Int)) then some false else bif x.1.2.2.1 != (-1:Int) then (La (x.1.2.2.1,x.2)).bind λx2=>bif !x2 then some false else (RU x.1.2.2.2.2.1).bind λx3=>bif x3 then (IG (x.1.2.2.2.2.2.1,(x.1.2.2.2.2.1.length:Int))).bind λx4=>bif x4==0 then (IG (x.1.2.2.2.2.2.2.1,(x.1.2.2.2.2.1.length:Int))).bind λx5=>some (x5==0) else some false else some false else (RU x.1.2.2.2.2.1).bind λx6=>bif x6 then (IG (x.1.2.2.2.2.2.1,(x.1.2.2.2.2.1.length:Int))).bind λx7=>bif x7==0 then (IG (x.1.2.2.2.2.2.2.1,(x.1.2.2.2.2.1.length:Int))).bind λx8=>some (x8==0) else some false else some false
def RX (x:Y0×Int):Option Bool:=WY x
def QWA:Cb:=⟨[Z0,Z2],[.bool],[false],λx=>RX x⟩
theorem QbR:Bb prog 170 QWA:=DV Qag Qc7 (λ_=>RX) (eO (BO QbM (BO QXU (BO QbQ (BO QXX BS))))) func170
def Qc9:LT:=lT []
noncomputable def Qah:=eN tab []
def iR (x:Y0):Option Y2:=
 some x.1
def K3 (x:Y0):Option Y2:=iR x
def QWB:Cb:=⟨[Z0],[.str],[false],λx=>K3 x⟩
theorem QbS:Bb prog 172 QWB:=DV Qah Qc9 (λ_=>K3) (eO BS) func172
def QKK:LT:=lK [(4,[0,1,15,16,17])] [(27,[])]
noncomputable def QIo:CO:={ tab:=tab,fs:=[(170,QWA),(172,QWB),(193,Gz7)],inl:=[(171,f171,Qc8)] }
noncomputable def QOL (v:jc×Int×Int×Y18):St:=⟨[(1,.OH 172 .unit),(5,.mp 0),sV 10 (.slice Z0) v.1,sV 11 Z2 v.2.1,sV 12 Z2 v.2.2.1],[(0,.mp .str .bool v.2.2.2)],[(4096,[])],16891904⟩
noncomputable def jm (v:Y51):St:=⟨[sV 0 (.slice Z0) v.1,sV 1 Z2 v.2.1,sV 15 (.slice Z0) v.2.2.1,sV 16 Z2 v.2.2.2.1,sV 17 Z2 v.2.2.2.2],[],[],4096⟩
def Pn (BM:Y51->Option Bool) (BQ:jc×Int×Int×Y18->Option Bool) (v:jc×Int×Int×Y18):Option Bool:=
 bif decide (v.2.2.1 < v.2.1) then (BX v.1 v.2.2.1).bind λx4=>(K3 x4).bind λx5=>((O6 x5).bind λx6=>bif !x6 then some false else bif (@bf .str .bool x5 false v.2.2.2).1 then some false else let x7:Y18:=@XP .str .bool x5 true v.2.2.2;let x8:Int:=IntKind.i64.wrap (v.2.2.1+1);BQ (v.1,v.2.1,x8,x7)) else some true
def FT (N:Nat) (BM:Y51->Option Bool) (BQ:jc×Int×Int×Y18->Option Bool) (v:jc×Int×Int×Y18):Option Bool:=Pn BM BQ v
theorem Qck (N:Nat) (s0:St->Option Bool) (s1) (v):(Bc QIo QKK 6 N f136 [.bool] [false] [.call 9 1 171] 0 BN) s1 (QOL v)=FT N (λv=>s0 (jm v)) (λv=>s1 (QOL v)) v:=by kernel_rfl
def K7 (Ca:jc×Int×Int×Y18->Option Bool) (BM:Y51->Option Bool) (v:Y51):Option Bool:=
 bif decide (v.2.2.2.2 < v.2.2.2.1) then (BX v.2.2.1 v.2.2.2.2).bind λx1=>((RX (x1,v.2.1)).bind λx2=>bif !x2 then some false else let x3:Int:=IntKind.i64.wrap (v.2.2.2.2+1);BM (v.1,v.2.1,v.2.2.1,v.2.2.2.1,x3)) else Ca (v.1,(v.1.length:Int),(0:Int),([]:List Y23))
def Ea (N:Nat) (BM:Y51->Option Bool) (v:Y51):Option Bool:=K7 (BP (FT N BM) N) BM v
theorem QSy (N:Nat) (s0) (v):(Bc QIo QKK 6 N f136 [.bool] [false] [] 0 BN) s0 (jm v)=Ea N (λv=>s0 (jm v)) v:=Eq.trans (b:=K7 (λv=>Bd (Bc QIo QKK 6 N f136 [.bool] [false] [.call 9 1 171] 0 BN) N (QOL v)) (λv=>s0 (jm v)) v) (by kernel_rfl) (by rw [funext (BR QOL (Qck N s0) N)];rfl)
def KO (BZ:Y51->Option Bool) (x:jc×Int):Option Bool:=
 bif decide ((x.1.length:Int) < 1) then some false else bif decide ((x.1.length:Int) > 32) then some false else BZ (x.1,x.2,x.1,(x.1.length:Int),(0:Int))
def Sk (x:jc×Int):Option Bool:=KO (BP (Ea big) big) x
def QWC:Cb:=⟨[(.slice Z0),Z2],[.bool],[false],λx=>Sk x⟩
theorem QbT:Bb prog 136 QWC:=DV QIo QKK (λN x=>KO (BP (Ea N) N) x) ⟨OD,(BO QbR (BO QbS (BO Lz7 BS))),λ_ _ _=>rfl,mixed,(Cm (Cj func171 rfl rfl (by kernel_rfl)) Gv),Gy,Gx⟩ func136 λN x=>Eq.trans (b:=KO (λv=>Bd (Bc QIo QKK 6 N f136 [.bool] [false] [] 0 BN) N (jm v)) x) (by kernel_rfl) (by rw [funext (BR jm (QSy N) N)] <;> rfl)
def QcA:LT:=lT []
noncomputable def Qai:=eN tab [(134,QW2),(135,QW3),(136,QWC)]
def U6 (x:Y1):Option Bool:=
 (Sq x.1).bind λx1=>bif x1 then (Sn x.2.1).bind λx2=>bif x2 then (Sk (x.2.2.1,(x.1.length:Int))).bind λx3=>some x3 else some false else some false
def O5 (x:Y1):Option Bool:=U6 x
def QWD:Cb:=⟨[Z1],[.bool],[false],λx=>O5 x⟩
theorem QbU:Bb prog 101 QWD:=DV Qai QcA (λ_=>O5) (eO (BO QbJ (BO QbK (BO QbT BS)))) func101
def QKL:LT:=lT [(3,[0,3,9,10,11]),(9,[6,22,23,24])]
noncomputable def QGM (mk:(α:Type)->Nat->α->List α):CO:={ tab:=tab,fs:=[],inl:=[],rep:=mk }
noncomputable def zN (v:Y77):St:=⟨[(6,.row 0),sV 22 (.slice Sd) v.1,sV 23 Z2 v.2.1,sV 24 Z2 v.2.2.1],[(0,.row LU v.2.2.2)],[],4096⟩
noncomputable def jo (v:Y52):St:=⟨[sV 0 (.slice Sd) v.1,sV 3 Z2 v.2.1,sV 9 (.slice Sd) v.2.2.1,sV 10 Z2 v.2.2.2.1,sV 11 Z2 v.2.2.2.2],[],[],4096⟩
def Uo (mk:(α:Type)->Nat->α->List α) (BM:Y52->Option Y2) (BQ:Y77->Option Y2) (v:Y77):Option Y2:=
 bif decide (v.2.2.1 < v.2.1) then (BX v.1 v.2.2.1).bind λx5=>bif Nat.ble 1 1&&Nat.ble (List.length v.2.2.2+x5.length) lim then let x6:Int:=IntKind.i64.wrap (v.2.2.1+1);BQ (v.1,v.2.1,x6,(List.append v.2.2.2 x5)) else none else some v.2.2.2
def Ls (mk:(α:Type)->Nat->α->List α) (N:Nat) (BM:Y52->Option Y2) (BQ:Y77->Option Y2) (v:Y77):Option Y2:=Uo mk BM BQ v
theorem QT0 (mk:(α:Type)->Nat->α->List α) (N:Nat) (s0:St->Option Y2) (s1) (v):(Bc (QGM mk) QKL 6 N f195 [Sd] [true] [] 1 BN) s1 (zN v)=Ls mk N (λv=>s0 (jo v)) (λv=>s1 (zN v)) v:=by kernel_rfl
def P9 (mk:(α:Type)->Nat->α->List α) (Ca:Y77->Option Y2) (BM:Y52->Option Y2) (v:Y52):Option Y2:=
 bif decide (v.2.2.2.2 < v.2.2.2.1) then (BX v.2.2.1 v.2.2.2.2).bind λx1=>let x2:Int:=IntKind.i64.wrap (v.2.1+(x1.length:Int));let x3:Int:=IntKind.i64.wrap (v.2.2.2.2+1);BM (v.1,x2,v.2.2.1,v.2.2.2.1,x3) else bif decide (0<=(0:Int))&&(decide ((0:Int)<=v.2.1)&&(decide (v.2.1<=68719476736)&&true)) then let x4:Y2:=mk Int (Int.toNat (0:Int)) (0:Int);Ca (v.1,(v.1.length:Int),(0:Int),x4) else none
def JJ (mk:(α:Type)->Nat->α->List α) (N:Nat) (BM:Y52->Option Y2) (v:Y52):Option Y2:=P9 mk (BP (Ls mk N BM) N) BM v
theorem QSz (mk:(α:Type)->Nat->α->List α) (N:Nat) (s0) (v):(Bc (QGM mk) QKL 6 N f195 [Sd] [true] [] 0 BN) s0 (jo v)=JJ mk N (λv=>s0 (jo v)) v:=Eq.trans (b:=P9 mk (λv=>Bd (Bc (QGM mk) QKL 6 N f195 [Sd] [true] [] 1 BN) N (zN v)) (λv=>s0 (jo v)) v) (by kernel_rfl) (by rw [funext (BR zN (QT0 mk N s0) N)];rfl)
def iX (mk:(α:Type)->Nat->α->List α) (BZ:Y52->Option Y2) (x:Si):Option Y2:=
 BZ (x,(0:Int),x,(x.length:Int),(0:Int))
def YG (mk:(α:Type)->Nat->α->List α) (N:Nat) (x:Si):Option Y2:=iX mk (BP (JJ mk N) N) x
theorem QdC (mk:(α:Type)->Nat->α->List α) (N:Nat) (x:Si):rise (QGM mk) QKL 6 N f195 [(.slice Sd)] [Sd] [true] x=YG mk N x:=Eq.trans (b:=iX mk (λv=>Bd (Bc (QGM mk) QKL 6 N f195 [Sd] [true] [] 0 BN) N (jo v)) x) (by kernel_rfl) (by rw [funext (BR jo (QSz mk N) N)];rfl)
def Mk (x:Si):Option Y2:=YG (λ_=>List.replicate) big x
def QRt:Cb:=⟨[(.slice Sd)],[Sd],[true],λx=>Mk x⟩
theorem QXY:Bb prog 195 QRt:=rzl (E:=QGM (λ_=>List.replicate)) (YG (λ_=>List.replicate)) (eO BS) func195 (QdC (λ_=>List.replicate))
def QSU:LT:=lT [(3,[0,3,4])]
noncomputable def QRe:=eN tab [(195,QRt)]
noncomputable def zO (v:Int×Int×Y2):St:=⟨[sV 0 ZF v.1,(3,.loc 0 []),sV 4 Z2 v.2.1],[(0,.var (.arr 10 LU) (.val ⟨(.arr 10 LU),v.2.2⟩))],[],4096⟩
def iI (BM:Int×Int×Y2->Option Y2) (v:Int×Int×Y2):Option Y2:=
 bif decide (v.1>=128) then let x1:Int:=bits .or .u8 (IntKind.u8.wrap v.1) (128:Int);bif decide (0<=v.2.1)&&decide (v.2.1 < 10) then let x2:Y2:=List.set v.2.2 (Int.toNat v.2.1) x1;let x3:Int:=IntKind.i64.wrap (v.2.1+1);BM ((v.1.fdiv (2 ^ 7)),x3,x2) else none else bif decide (0<=v.2.1)&&decide (v.2.1 < 10) then let x4:Y2:=List.set v.2.2 (Int.toNat v.2.1) (IntKind.u8.wrap v.1);let x5:Int:=IntKind.i64.wrap (v.2.1+1);bif decide (0<=x5)&&decide (x5<=(x4.length:Int)) then let x6:Y2:=List.take (Int.toNat x5) x4;let x7:Si:=([x6]:Si);(Mk x7).bind λx8=>some x8 else none else none
def Pj (N:Nat) (BM:Int×Int×Y2->Option Y2) (v:Int×Int×Y2):Option Y2:=iI BM v
theorem QT1 (N:Nat) (s0) (v):(Bc QRe QSU 6 N f194 [Sd] [true] [] 0 BN) s0 (zO v)=Pj N (λv=>s0 (zO v)) v:=by kernel_rfl
def fC (BZ:Int×Int×Y2->Option Y2) (x:Int):Option Y2:=
 BZ (x,(0:Int),(List.replicate 10 (0:Int)))
def GR (x:Int):Option Y2:=fC (BP (Pj big) big) x
def QGR:Cb:=⟨[ZF],[Sd],[true],λx=>GR x⟩
theorem QJZ:Bb prog 194 QGR:=DV QRe QSU (λN x=>fC (BP (Pj N) N) x) (eO (BO QXY BS)) func194 λN x=>Eq.trans (b:=fC (λv=>Bd (Bc QRe QSU 6 N f194 [Sd] [true] [] 0 BN) N (zO v)) x) (by kernel_rfl) (by rw [funext (BR zO (QT1 N) N)] <;> rfl)
def QYW:LT:=lT []
noncomputable def QVm:=eN tab [(194,QGR)]
def Iq (x:Y2) (y:Y22):Option Y2:=
 (GR (IntKind.u64.wrap y.1)).bind λx1=>bif Nat.ble 1 1&&Nat.ble (List.length x+x1.length) lim then some (List.append x x1) else none
def cK (N:Nat) (x:Y2) (y:Y22):Option Y2:=Iq x y
theorem QdD (N:Nat) (x:Y2) (y:Y22):dS (QVm) QYW 6 N f173 LU [.hole Z2] x y=Iq x y:=by kernel_rfl
def Bj (x:Y2) (y:Y22):Option Y2:=cK big x y
@[reducible] def QGT:Yv:=⟨LU,[.hole Z2],λx y=>Bj x y⟩
theorem QMj:VX prog 173 QGT:=Zo (c:=QGT) (E:=QVm) (eO (BO QJZ BS)) func173 rfl (by decide) (by kernel_rfl) (by kernel_rfl) (λx y z h=>⟨QYW,6,big,(QdD big x y).trans h⟩)
def QcC:LT:=lT []
noncomputable def Qaj:=eN tab [(194,QGR),(195,QRt)]
def tL (x:Y2):Option Ol:=
 bif decide ((x.length:Int) > 200000) then some (([]:List Int),(4:Int)) else let x1:Int:=IntKind.u64.wrap (x.length:Int);((GR x1).bind λx2=>let x3:Si:=([x2,x]:Si);(Mk x3).bind λx4=>some (x4,(0:Int)))
def Uc (x:Y2):Option Ol:=tL x
def QWE:Cb:=⟨[.str],[Sd,Z2],[true,false],λx=>Uc x⟩
theorem QbV:Bb prog 176 QWE:=DV Qaj QcC (λ_=>Uc) (eO (BO QJZ (BO QXY BS))) func176
def QYY:LT:=lT []
noncomputable def QVn:=eN tab [(176,QWE)]
def LG (x:Y2) (y:(Y2×Unit)):Option Y2:=
 (Uc y.1).bind λx1=>bif Nat.ble 1 1&&Nat.ble (List.length x+x1.1.length) lim then some (List.append x x1.1) else none
def iO (N:Nat) (x:Y2) (y:(Y2×Unit)):Option Y2:=LG x y
theorem QdE (N:Nat) (x:Y2) (y:(Y2×Unit)):dS (QVn) QYY 6 N f140 LU [.hole .str] x y=LG x y:=by kernel_rfl
def HV (x:Y2) (y:(Y2×Unit)):Option Y2:=iO big x y
@[reducible] def QJc:Yv:=⟨LU,[.hole .str],λx y=>HV x y⟩
theorem QS6:VX prog 140 QJc:=Zo (c:=QJc) (E:=QVn) (eO (BO QbV BS)) func140 rfl (by decide) (by kernel_rfl) (by kernel_rfl) (λx y z h=>⟨QYY,6,big,(QdE big x y).trans h⟩)
def QYZ:LT:=lT []
noncomputable def QVo:CO:={ tab:=tab,fs:=[],inl:=[],ow:=[(140,QJc),(173,QGT)] }
def J2 (x:Y2) (y:((Y2×Y22)×Unit)):Option Y2:=
 (HV x (y.1.1,())).bind λx1=>(Bj x1 (y.1.2.1,())).bind λx2=>some x2
def eZ (N:Nat) (x:Y2) (y:((Y2×Y22)×Unit)):Option Y2:=J2 x y
theorem QdF (N:Nat) (x:Y2) (y:((Y2×Y22)×Unit)):dS (QVo) QYZ 6 N f175 LU [.hole Z18] x y=J2 x y:=by kernel_rfl
def Jq (x:Y2) (y:((Y2×Y22)×Unit)):Option Y2:=eZ big x y
@[reducible] def QMn:Yv:=⟨LU,[.hole Z18],λx y=>Jq x y⟩
theorem QXZ:VX prog 175 QMn:=Zo (c:=QMn) (E:=QVo) ⟨OD,BS,λ_ _ _=>rfl,mixed,Gv,Gy,(LJ QS6 (LJ QMj Gx))⟩ func175 rfl (by decide) (by kernel_rfl) (by kernel_rfl) (λx y z h=>⟨QYZ,6,big,(QdF big x y).trans h⟩)
def QMo:LT:=lK [] [(34,[])]
noncomputable def QMZ:CO:={ tab:=tab,fs:=[],inl:=[(174,f174,QYX)],ow:=[(173,QGT),(175,QMn)] }
noncomputable def zP (v:Y79):St:=⟨[(0,.row 0),(2,.OH 175 .unit),sV 13 Z8 v.1,sV 14 Z2 v.2.1,sV 15 Z2 v.2.2.1],[(0,.row LU v.2.2.2)],[(4096,[])],16920576⟩
def NJ (BM:Y79->Option Y2) (v:Y79):Option Y2:=
 bif decide (v.2.2.1 < v.2.1) then (BX v.1 v.2.2.1).bind λx6=>((Jq v.2.2.2 (x6,())).bind λx7=>let x8:Int:=IntKind.i64.wrap (v.2.2.1+1);BM (v.1,v.2.1,x8,x7)) else some v.2.2.2
def Dm (N:Nat) (BM:Y79->Option Y2) (v:Y79):Option Y2:=NJ BM v
theorem QT2 (N:Nat) (s0) (v):(Yj (QMZ) QMo 6 N f138 LU [.call 10 3 174] 0 BN) s0 (zP v)=Dm N (λv=>s0 (zP v)) v:=by kernel_rfl
def LH (BZ:Y79->Option Y2) (x:Y2) (y:(jZ×Unit)):Option Y2:=
 bif Nat.ble 1 1&&Nat.ble (List.length x+List.length ([y.1.1]:Y2)) lim then let x1:Y2:=List.append x ([y.1.1]:Y2);bif y.1.1==4 then bif y.1.1==4 then (Bj x1 (y.1.2.1,())).bind λx2=>some x2 else bif y.1.1==6 then (Bj x1 (y.1.2.1,())).bind λx3=>(Bj x3 (y.1.2.2.1,())).bind λx4=>some x4 else bif y.1.1==5 then (Bj x1 ((y.1.2.2.2.1.length:Int),())).bind λx5=>BZ (y.1.2.2.2.1,(y.1.2.2.2.1.length:Int),(0:Int),x5) else some x1 else bif y.1.1==7 then (Bj x1 (y.1.2.1,())).bind λx9=>some x9 else bif y.1.1==6 then (Bj x1 (y.1.2.1,())).bind λFJ=>(Bj FJ (y.1.2.2.1,())).bind λFQ=>some FQ else bif y.1.1==5 then (Bj x1 ((y.1.2.2.2.1.length:Int),())).bind λKw=>BZ (y.1.2.2.2.1,(y.1.2.2.2.1.length:Int),(0:Int),Kw) else some x1 else none
def Vz (N:Nat) (x:Y2) (y:(jZ×Unit)):Option Y2:=LH (BP (Dm N) N) x y
theorem QdG (N:Nat) (x:Y2) (y:(jZ×Unit)):dS (QMZ) QMo 6 N f138 LU [.hole Z4] x y=Vz N x y:=Eq.trans (b:=LH (λv=>Bd (Yj (QMZ) QMo 6 N f138 LU [.call 10 3 174] 0 BN) N (zP v)) x y) (by kernel_rfl) (by rw [funext (BR zP (QT2 N) N)];rfl)
def O4 (x:Y2) (y:(jZ×Unit)):Option Y2:=Vz big x y
@[reducible] def QSB:Yv:=⟨LU,[.hole Z4],λx y=>O4 x y⟩
theorem QbW:VX prog 138 QSB:=Zo (c:=QSB) (E:=QMZ) ⟨OD,BS,λ_ _ _=>rfl,mixed,(Cm (Cj func174 rfl rfl (by kernel_rfl)) Gv),Gy,(LJ QMj (LJ QXZ Gx))⟩ func138 rfl (by decide) (by kernel_rfl) (by kernel_rfl) (λx y z h=>⟨QMo,6,big,(QdG big x y).trans h⟩)
def QcF:LT:=lT []
noncomputable def Qak:=eN tab [(194,QGR)]
def iW (x:Int):Option Y2:=
 bif decide (x < 0) then let x1:Int:=bits .xor .i64 (if IntKind.signed .i64 then -1 else IntKind.max .i64) x;let x2:Int:=IntKind.u64.wrap ((IntKind.u64.wrap x1) * 2 ^ 1);let x3:Int:=bits .or .u64 x2 (1:Int);(GR x3).bind λx4=>some x4 else let x5:Int:=IntKind.u64.wrap ((IntKind.u64.wrap x) * 2 ^ 1);(GR x5).bind λx6=>some x6
def Mj (x:Int):Option Y2:=iW x
def QRu:Cb:=⟨[Z2],[Sd],[true],λx=>Mj x⟩
theorem QXa:Bb prog 177 QRu:=DV Qak QcF (λ_=>Mj) (eO (BO QJZ BS)) func177
def QcH:LT:=lT []
noncomputable def Qal:=eN tab []
def dO (x:Int):Option Bool:=
 bif x==5 then some true else bif x==3 then some true else some (x==4)
def NZ (x:Int):Option Bool:=dO x
def QWF:Cb:=⟨[LU],[.bool],[false],λx=>NZ x⟩
theorem QbX:Bb prog 209 QWF:=DV Qal QcH (λ_=>NZ) (eO BS) func209
def QSV:LT:=lK [] [(16,[5])]
noncomputable def QRf:CO:={ tab:=tab,fs:=[(80,QJK),(123,QMc),(177,QRu),(194,QGR),(209,QWF)],inl:=[(81,f81,QYa),(208,f208,QcI)] }
noncomputable def zQ (v:Y84):St:=⟨[(1,(.OH 208 (.pair (.loc 0 []) .unit))),(4,.loc 2 []),sV 13 (.arr 3 LU) v.1,sV 14 Z2 v.2.1],[(0,.var Sd (.row 1)),(1,.row LU v.2.2.1),(2,.var Z19 (.val ⟨Z19,v.2.2.2⟩))],[(4096,[(5,.loc 0 [])])],16846848⟩
def WJ (BM:Y84->Option Ol) (v:Y84):Option Ol:=
 bif decide (v.2.1 < 3) then (BX v.1 v.2.1).bind λx4=>bif x4 != 0 then bif decide (0<=v.2.1)&&decide (v.2.1 < 3) then (nth v.2.2.2 (Int.toNat v.2.1)).bind λx5=>((NZ x4).bind λx6=>bif x6 then (Mj x5).bind λx7=>bif Nat.ble 1 1&&Nat.ble (List.length v.2.2.1+x7.length) lim then let x8:Int:=IntKind.i64.wrap (v.2.1+1);BM (v.1,x8,(List.append v.2.2.1 x7),v.2.2.2) else none else (GR (IntKind.u64.wrap x5)).bind λx9=>bif Nat.ble 1 1&&Nat.ble (List.length v.2.2.1+x9.length) lim then let FJ:Int:=IntKind.i64.wrap (v.2.1+1);BM (v.1,FJ,(List.append v.2.2.1 x9),v.2.2.2) else none) else none else let FQ:Int:=IntKind.i64.wrap (v.2.1+1);BM (v.1,FQ,v.2.2.1,v.2.2.2) else some (v.2.2.1,(0:Int))
def Nl (N:Nat) (BM:Y84->Option Ol) (v:Y84):Option Ol:=WJ BM v
theorem QT3 (N:Nat) (s0) (v):(Bc QRf QSV 6 N f196 [Sd,Z2] [true,false] [.call 5 2 81] 0 BN) s0 (zQ v)=Nl N (λv=>s0 (zQ v)) v:=by kernel_rfl
def SB (BZ:Y84->Option Ol) (x:Sj):Option Ol:=
 (Qx x).bind λx1=>bif x1 != 0 then some (([]:List Int),x1) else (KZ x).bind λx2=>(BX gl0 x.1).bind λx3=>BZ (x3.2.1,(0:Int),([x.1]:Y2),x2)
def ZO (x:Sj):Option Ol:=SB (BP (Nl big) big) x
def QWG:Cb:=⟨[Z3],[Sd,Z2],[true,false],λx=>ZO x⟩
theorem QbY:Bb prog 196 QWG:=DV QRf QSV (λN x=>SB (BP (Nl N) N) x) ⟨OD,(BO QMi (BO QS5 (BO QXa (BO QJZ (BO QbX BS))))),λ_ _ _=>rfl,mixed,(Cm (Cj func81 rfl rfl (by kernel_rfl)) (Cm (Cj func208 rfl rfl (by kernel_rfl)) Gv)),Gy,Gx⟩ func196 λN x=>Eq.trans (b:=SB (λv=>Bd (Bc QRf QSV 6 N f196 [Sd,Z2] [true,false] [.call 5 2 81] 0 BN) N (zQ v)) x) (by kernel_rfl) (by rw [funext (BR zQ (QT3 N) N)] <;> rfl)
def QYb:LT:=lT []
noncomputable def QVp:=eN tab [(196,QWG)]
def J4 (x:Y2) (y:(Sj×Unit)):Option Y2:=
 (ZO y.1).bind λx1=>bif Nat.ble 1 1&&Nat.ble (List.length x+x1.1.length) lim then some (List.append x x1.1) else none
def eu (N:Nat) (x:Y2) (y:(Sj×Unit)):Option Y2:=J4 x y
theorem QdH (N:Nat) (x:Y2) (y:(Sj×Unit)):dS (QVp) QYb 6 N f179 LU [.hole Z3] x y=J4 x y:=by kernel_rfl
def OQ (x:Y2) (y:(Sj×Unit)):Option Y2:=eu big x y
@[reducible] def QSC:Yv:=⟨LU,[.hole Z3],λx y=>OQ x y⟩
theorem QbZ:VX prog 179 QSC:=Zo (c:=QSC) (E:=QVp) (eO (BO QbY BS)) func179 rfl (by decide) (by kernel_rfl) (by kernel_rfl) (λx y z h=>⟨QYb,6,big,(QdH big x y).trans h⟩)
def QSW:LT:=lT [(7,[7,8,21,22,23])]
noncomputable def QRg:=eN tab [(192,QRs),(194,QGR)]
noncomputable def zR (v:Y57):St:=⟨[(7,.row 0),sV 8 Z2 v.1,sV 21 dA v.2.1,sV 22 Z2 v.2.2.1,sV 23 Z2 v.2.2.2.1],[(0,.row LU v.2.2.2.2)],[],4096⟩
def JU (BM:Y57->Option Ol) (v:Y57):Option Ol:=
 bif decide (v.2.2.2.1 < v.2.2.1) then (BX v.2.1 v.2.2.2.1).bind λx4=>let x5:Int:=IntKind.i64.wrap (x4.1 - v.1);((GR (IntKind.u64.wrap x5)).bind λx6=>bif Nat.ble 1 1&&Nat.ble (List.length v.2.2.2.2+x6.length) lim then let x7:Y2:=List.append v.2.2.2.2 x6;((GR x4.2.1).bind λx8=>bif Nat.ble 1 1&&Nat.ble (List.length x7+x8.length) lim then let x9:Int:=IntKind.i64.wrap (v.2.2.2.1+1);BM (x4.1,v.2.1,v.2.2.1,x9,(List.append x7 x8)) else none) else none) else some (v.2.2.2.2,(0:Int))
def JI (N:Nat) (BM:Y57->Option Ol) (v:Y57):Option Ol:=JU BM v
theorem QT4 (N:Nat) (s0) (v):(Bc QRg QSW 6 N f197 [Sd,Z2] [true,false] [] 0 BN) s0 (zR v)=JI N (λv=>s0 (zR v)) v:=by kernel_rfl
def MS (BZ:Y57->Option Ol) (x:Y9×Int):Option Ol:=
 (IG (x.1,x.2)).bind λx1=>bif x1 != 0 then some (([]:List Int),x1) else let x2:Int:=IntKind.u64.wrap (x.1.length:Int);(GR x2).bind λx3=>BZ ((0:Int),x.1,(x.1.length:Int),(0:Int),x3)
def Ub (x:Y9×Int):Option Ol:=MS (BP (JI big) big) x
def QWH:Cb:=⟨[dA,Z2],[Sd,Z2],[true,false],λx=>Ub x⟩
theorem Qba:Bb prog 197 QWH:=DV QRg QSW (λN x=>MS (BP (JI N) N) x) (eO (BO QXX (BO QJZ BS))) func197 λN x=>Eq.trans (b:=MS (λv=>Bd (Bc QRg QSW 6 N f197 [Sd,Z2] [true,false] [] 0 BN) N (zR v)) x) (by kernel_rfl) (by rw [funext (BR zR (QT4 N) N)] <;> rfl)
def QYc:LT:=lT []
noncomputable def QVq:=eN tab [(197,QWH)]
def LD (x:Y2) (y:(Y9×Y22)):Option Y2:=
 (Ub (y.1,y.2.1)).bind λx1=>bif Nat.ble 1 1&&Nat.ble (List.length x+x1.1.length) lim then some (List.append x x1.1) else none
def iN (N:Nat) (x:Y2) (y:(Y9×Y22)):Option Y2:=LD x y
theorem QdI (N:Nat) (x:Y2) (y:(Y9×Y22)):dS (QVq) QYc 6 N f180 LU [.hole dA,.hole Z2] x y=LD x y:=by kernel_rfl
def Kz (x:Y2) (y:(Y9×Y22)):Option Y2:=iN big x y
@[reducible] def QSD:Yv:=⟨LU,[.hole dA,.hole Z2],λx y=>Kz x y⟩
theorem Qbb:VX prog 180 QSD:=Zo (c:=QSD) (E:=QVq) (eO (BO Qba BS)) func180 rfl (by decide) (by kernel_rfl) (by kernel_rfl) (λx y z h=>⟨QYc,6,big,(QdI big x y).trans h⟩)
def QGW:LT:=lK [] [(21,[3]),(25,[3])]
noncomputable def QGN:CO:={ tab:=tab,fs:=[(177,QRu)],inl:=[(174,f174,QYX),(178,f178,QcG)],ow:=[(140,QJc),(173,QGT),(175,QMn),(179,QSC),(180,QSD)] }
noncomputable def zS (v:Y67):St:=⟨[(0,.row 0),(2,.OH 179 .unit),sV 13 LX v.1,sV 14 Z2 v.2.1,sV 15 Z2 v.2.2.1],[(0,.row LU v.2.2.2.1),(1,.var Z0 (.val ⟨Z0,v.2.2.2.2⟩))],[(4096,[(3,.loc 1 [])])],16883712⟩
noncomputable def jq (v:Y68):St:=⟨[(0,.row 0),(2,.OH 175 .unit),sV 13 Z8 v.1,sV 14 Z2 v.2.1,sV 15 Z2 v.2.2.1],[(0,.row LU v.2.2.2.1),(1,.var Z0 (.val ⟨Z0,v.2.2.2.2⟩))],[(4096,[(3,.loc 1 [])])],16867328⟩
def NI (BM:Y68->Option Y2) (BQ:Y67->Option Y2) (v:Y67):Option Y2:=
 bif decide (v.2.2.1 < v.2.1) then (BX v.1 v.2.2.1).bind λx9=>((OQ v.2.2.2.1 (x9,())).bind λFJ=>let FQ:Int:=IntKind.i64.wrap (v.2.2.1+1);BQ (v.1,v.2.1,FQ,FJ,v.2.2.2.2)) else (Kz v.2.2.2.1 (v.2.2.2.2.2.2.2.2.2.1,((v.2.2.2.2.2.2.2.2.1.length:Int),()))).bind λKw=>(Kz Kw (v.2.2.2.2.2.2.2.2.2.2.1,((v.2.2.2.2.2.2.2.2.1.length:Int),()))).bind λNC=>some NC
def En (N:Nat) (BM:Y68->Option Y2) (BQ:Y67->Option Y2) (v:Y67):Option Y2:=NI BM BQ v
theorem QT6 (N:Nat) (s0:St->Option Y2) (s1) (v):(Yj (QGN) QGW 6 N f142 LU [.call 5 3 178] 0 BN) s1 (zS v)=En N (λv=>s0 (jq v)) (λv=>s1 (zS v)) v:=by kernel_rfl
def Im (Ca:Y67->Option Y2) (BM:Y68->Option Y2) (v:Y68):Option Y2:=
 bif decide (v.2.2.1 < v.2.1) then (BX v.1 v.2.2.1).bind λx5=>((Jq v.2.2.2.1 (x5,())).bind λx6=>let x7:Int:=IntKind.i64.wrap (v.2.2.1+1);BM (v.1,v.2.1,x7,x6,v.2.2.2.2)) else (Bj v.2.2.2.1 ((v.2.2.2.2.2.2.2.2.1.length:Int),())).bind λx8=>Ca (v.2.2.2.2.2.2.2.2.1,(v.2.2.2.2.2.2.2.2.1.length:Int),(0:Int),x8,v.2.2.2.2)
def Em (N:Nat) (BM:Y68->Option Y2) (v:Y68):Option Y2:=Im (BP (En N BM) N) BM v
theorem QT5 (N:Nat) (s0) (v):(Yj (QGN) QGW 6 N f142 LU [.call 4 3 174] 0 BN) s0 (jq v)=Em N (λv=>s0 (jq v)) v:=Eq.trans (b:=Im (λv=>Bd (Yj (QGN) QGW 6 N f142 LU [.call 5 3 178] 0 BN) N (zS v)) (λv=>s0 (jq v)) v) (by kernel_rfl) (by rw [funext (BR zS (QT6 N s0) N)];rfl)
def LC (BZ:Y68->Option Y2) (x:Y2) (y:(Y0×Unit)):Option Y2:=
 (HV x (y.1.1,())).bind λx1=>(Bj x1 (y.1.2.1,())).bind λx2=>(Mj y.1.2.2.1).bind λx3=>bif Nat.ble 1 1&&Nat.ble (List.length x2+x3.length) lim then (Bj (List.append x2 x3) ((y.1.2.2.2.1.length:Int),())).bind λx4=>BZ (y.1.2.2.2.1,(y.1.2.2.2.1.length:Int),(0:Int),x4,y.1) else none
def Vy (N:Nat) (x:Y2) (y:(Y0×Unit)):Option Y2:=LC (BP (Em N) N) x y
theorem QdJ (N:Nat) (x:Y2) (y:(Y0×Unit)):dS (QGN) QGW 6 N f142 LU [.hole Z0] x y=Vy N x y:=Eq.trans (b:=LC (λv=>Bd (Yj (QGN) QGW 6 N f142 LU [.call 4 3 174] 0 BN) N (jq v)) x y) (by kernel_rfl) (by rw [funext (BR jq (QT5 N) N)];rfl)
def O1 (x:Y2) (y:(Y0×Unit)):Option Y2:=Vy big x y
@[reducible] def QSE:Yv:=⟨LU,[.hole Z0],λx y=>O1 x y⟩
theorem Qbc:VX prog 142 QSE:=Zo (c:=QSE) (E:=QGN) ⟨OD,(BO QXa BS),λ_ _ _=>rfl,mixed,(Cm (Cj func174 rfl rfl (by kernel_rfl)) (Cm (Cj func178 rfl rfl (by kernel_rfl)) Gv)),Gy,(LJ QS6 (LJ QMj (LJ QXZ (LJ QbZ (LJ Qbb Gx)))))⟩ func142 rfl (by decide) (by kernel_rfl) (by kernel_rfl) (λx y z h=>⟨QGW,6,big,(QdJ big x y).trans h⟩)
def QBB:LT:=lK [] [(8,[3]),(12,[3]),(16,[])]
noncomputable def QAt:CO:={ tab:=tab,fs:=[],inl:=[(137,f137,QcB),(139,f139,QcD),(141,f141,QcE)],ow:=[(138,QSB),(140,QJc),(142,QSE),(173,QGT)] }
noncomputable def zT (v:jc×Int×Int×Y2):St:=⟨[(0,.row 0),(2,.OH 142 .unit),sV 13 (.slice Z0) v.1,sV 14 Z2 v.2.1,sV 15 Z2 v.2.2.1],[(0,.row LU v.2.2.2)],[(4096,[])],16846848⟩
noncomputable def jr (v:Y58):St:=⟨[(0,.row 0),(2,.OH 140 .unit),sV 13 (.slice .str) v.1,sV 14 Z2 v.2.1,sV 15 Z2 v.2.2.1],[(0,.row LU v.2.2.2.1),(1,.var Z1 (.val ⟨Z1,v.2.2.2.2⟩))],[(4096,[(3,.loc 1 [])])],16830464⟩
noncomputable def ZU (v:Y69):St:=⟨[(0,.row 0),(2,.OH 138 .unit),sV 13 VN v.1,sV 14 Z2 v.2.1,sV 15 Z2 v.2.2.1],[(0,.row LU v.2.2.2.1),(1,.var Z1 (.val ⟨Z1,v.2.2.2.2⟩))],[(4096,[(3,.loc 1 [])])],16814080⟩
def L8 (BM:Y69->Option Y2) (BQ:Y58->Option Y2) (Bp:jc×Int×Int×Y2->Option Y2) (v:jc×Int×Int×Y2):Option Y2:=
 bif decide (v.2.2.1 < v.2.1) then (BX v.1 v.2.2.1).bind λFJ=>((O1 v.2.2.2 (FJ,())).bind λFQ=>let Kw:Int:=IntKind.i64.wrap (v.2.2.1+1);Bp (v.1,v.2.1,Kw,FQ)) else some v.2.2.2
def EK (N:Nat) (BM:Y69->Option Y2) (BQ:Y58->Option Y2) (Bp:jc×Int×Int×Y2->Option Y2) (v:jc×Int×Int×Y2):Option Y2:=L8 BM BQ Bp v
theorem QT9 (N:Nat) (s0:St->Option Y2) (s1:St->Option Y2) (s2) (v):(Yj (QAt) QBB 6 N f102 LU [.call 3 3 141] 0 BN) s2 (zT v)=EK N (λv=>s0 (ZU v)) (λv=>s1 (jr v)) (λv=>s2 (zT v)) v:=by kernel_rfl
def Hr (QB:jc×Int×Int×Y2->Option Y2) (BM:Y69->Option Y2) (BQ:Y58->Option Y2) (v:Y58):Option Y2:=
 bif decide (v.2.2.1 < v.2.1) then (BX v.1 v.2.2.1).bind λx6=>((HV v.2.2.2.1 (x6,())).bind λx7=>let x8:Int:=IntKind.i64.wrap (v.2.2.1+1);BQ (v.1,v.2.1,x8,x7,v.2.2.2.2)) else (Bj v.2.2.2.1 ((v.2.2.2.2.2.2.1.length:Int),())).bind λx9=>QB (v.2.2.2.2.2.2.1,(v.2.2.2.2.2.2.1.length:Int),(0:Int),x9)
def EJ (N:Nat) (BM:Y69->Option Y2) (BQ:Y58->Option Y2) (v:Y58):Option Y2:=Hr (BP (EK N BM BQ) N) BM BQ v
theorem QT8 (N:Nat) (s0:St->Option Y2) (s1) (v):(Yj (QAt) QBB 6 N f102 LU [.call 2 3 139] 0 BN) s1 (jr v)=EJ N (λv=>s0 (ZU v)) (λv=>s1 (jr v)) v:=Eq.trans (b:=Hr (λv=>Bd (Yj (QAt) QBB 6 N f102 LU [.call 3 3 141] 0 BN) N (zT v)) (λv=>s0 (ZU v)) (λv=>s1 (jr v)) v) (by kernel_rfl) (by rw [funext (BR zT (QT9 N s0 s1) N)];rfl)
def Hq (Ca:Y58->Option Y2) (BM:Y69->Option Y2) (v:Y69):Option Y2:=
 bif decide (v.2.2.1 < v.2.1) then (BX v.1 v.2.2.1).bind λx2=>((O4 v.2.2.2.1 (x2,())).bind λx3=>let x4:Int:=IntKind.i64.wrap (v.2.2.1+1);BM (v.1,v.2.1,x4,x3,v.2.2.2.2)) else (Bj v.2.2.2.1 ((v.2.2.2.2.2.1.length:Int),())).bind λx5=>Ca (v.2.2.2.2.2.1,(v.2.2.2.2.2.1.length:Int),(0:Int),x5,v.2.2.2.2)
def EI (N:Nat) (BM:Y69->Option Y2) (v:Y69):Option Y2:=Hq (BP (EJ N BM) N) BM v
theorem QT7 (N:Nat) (s0) (v):(Yj (QAt) QBB 6 N f102 LU [.call 1 3 137] 0 BN) s0 (ZU v)=EI N (λv=>s0 (ZU v)) v:=Eq.trans (b:=Hq (λv=>Bd (Yj (QAt) QBB 6 N f102 LU [.call 2 3 139] 0 BN) N (jr v)) (λv=>s0 (ZU v)) v) (by kernel_rfl) (by rw [funext (BR jr (QT8 N s0) N)];rfl)
def J3 (BZ:Y69->Option Y2) (x:Y2) (y:(Y1×Unit)):Option Y2:=
 (Bj x ((y.1.1.length:Int),())).bind λx1=>BZ (y.1.1,(y.1.1.length:Int),(0:Int),x1,y.1)
def Uy (N:Nat) (x:Y2) (y:(Y1×Unit)):Option Y2:=J3 (BP (EI N) N) x y
theorem QdK (N:Nat) (x:Y2) (y:(Y1×Unit)):dS (QAt) QBB 6 N f102 LU [.hole Z1] x y=Uy N x y:=Eq.trans (b:=J3 (λv=>Bd (Yj (QAt) QBB 6 N f102 LU [.call 1 3 137] 0 BN) N (ZU v)) x y) (by kernel_rfl) (by rw [funext (BR ZU (QT7 N) N)];rfl)
def OP (x:Y2) (y:(Y1×Unit)):Option Y2:=Uy big x y
@[reducible] def QSF:Yv:=⟨LU,[.hole Z1],λx y=>OP x y⟩
theorem Qbd:VX prog 102 QSF:=Zo (c:=QSF) (E:=QAt) ⟨OD,BS,λ_ _ _=>rfl,mixed,(Cm (Cj func137 rfl rfl (by kernel_rfl)) (Cm (Cj func139 rfl rfl (by kernel_rfl)) (Cm (Cj func141 rfl rfl (by kernel_rfl)) Gv))),Gy,(LJ QbW (LJ QS6 (LJ Qbc (LJ QMj Gx))))⟩ func102 rfl (by decide) (by kernel_rfl) (by kernel_rfl) (λx y z h=>⟨QBB,6,big,(QdK big x y).trans h⟩)
def QcJ:LT:=lT []
noncomputable def Qam:CO:={ tab:=tab,fs:=[(101,QWD)],inl:=[],ow:=[(102,QSF)] }
def WX (x:Y1):Option Ol:=
 (O5 x).bind λx1=>bif !x1 then some (([]:List Int),(8:Int)) else (OP ([]:List Int) (x,())).bind λx2=>bif decide ((x2.length:Int) > 20000) then some (([]:List Int),(4:Int)) else some (x2,(0:Int))
def RS (x:Y1):Option Ol:=WX x
def QWI:Cb:=⟨[Z1],[Sd,Z2],[true,false],λx=>RS x⟩
theorem Qbe:Bb prog 59 QWI:=DV Qam QcJ (λ_=>RS) ⟨OD,(BO QbU BS),λ_ _ _=>rfl,mixed,Gv,Gy,(LJ Qbd Gx)⟩ func59
def QcK:LT:=lT []
noncomputable def Qan:=eN tab [(59,QWI)]
def YH (x:Y1):Option Int:=
 (RS x).bind λx1=>some x1.2
def Me (x:Y1):Option Int:=YH x
def QMd:Cb:=⟨[Z1],[Z2],[false],λx=>Me x⟩
theorem QS7:Bb prog 28 QMd:=DV Qan QcK (λ_=>Me) (eO (BO Qbe BS)) func28
def QcL:LT:=lT []
noncomputable def Qao:=eN tab [(118,QRn)]
def WZ (x:Int):Option ZC:=
 bif decide (x < 0) then some ((0:Int),(2:Int)) else bif decide (x > 1073741824) then some ((0:Int),(2:Int)) else (GD (x,(8:Int))).bind λx1=>some (x1,(0:Int))
def RY (x:Int):Option ZC:=WZ x
def QWJ:Cb:=⟨[Z2],[Z2,Z2],[false,false],λx=>RY x⟩
theorem Qbf:Bb prog 68 QWJ:=DV Qao QcL (λ_=>RY) (eO (BO QX4 BS)) func68
def QSX:LT:=lT [(3,[0,3,12,13])]
noncomputable def QMa (mk:(α:Type)->Nat->α->List α):CO:={ tab:=tab,fs:=[(67,QRo),(68,QWJ)],inl:=[],rep:=mk }
noncomputable def zU (v:Y4×Int×Int×Y2):St:=⟨[sV 0 VN v.1,(3,.row 0),sV 12 Z2 v.2.1,sV 13 Z2 v.2.2.1],[(0,.row Z2 v.2.2.2)],[],4096⟩
def Ku (mk:(α:Type)->Nat->α->List α) (BM:Y4×Int×Int×Y2->Option Y2) (v:Y4×Int×Int×Y2):Option Y2:=
 bif decide (v.2.2.1 < v.2.1) then (O9 (v.1,v.2.2.1)).bind λx2=>((RY x2.1).bind λx3=>bif decide (0<=v.2.2.1)&&decide (v.2.2.1 < (v.2.2.2.length:Int)) then let x4:Y2:=List.set v.2.2.2 (Int.toNat v.2.2.1) x3.1;let x5:Int:=IntKind.i64.wrap (v.2.2.1+1);BM (v.1,v.2.1,x5,x4) else none) else some v.2.2.2
def Dw (mk:(α:Type)->Nat->α->List α) (N:Nat) (BM:Y4×Int×Int×Y2->Option Y2) (v:Y4×Int×Int×Y2):Option Y2:=Ku mk BM v
theorem QTA (mk:(α:Type)->Nat->α->List α) (N:Nat) (s0) (v):(Bc (QMa mk) QSX 6 N f31 [Z5] [false] [] 0 BN) s0 (zU v)=Dw mk N (λv=>s0 (zU v)) v:=by kernel_rfl
def Io (mk:(α:Type)->Nat->α->List α) (BZ:Y4×Int×Int×Y2->Option Y2) (x:Y4):Option Y2:=
 bif decide (0<=(x.length:Int))&&(decide ((x.length:Int)<=(x.length:Int))&&(decide ((x.length:Int)<=68719476736)&&true)) then let x1:Y2:=mk Int (Int.toNat (x.length:Int)) (0:Int);BZ (x,(x.length:Int),(0:Int),x1) else none
def NP (mk:(α:Type)->Nat->α->List α) (N:Nat) (x:Y4):Option Y2:=Io mk (BP (Dw mk N) N) x
theorem QdL (mk:(α:Type)->Nat->α->List α) (N:Nat) (x:Y4):rise (QMa mk) QSX 6 N f31 [VN] [Z5] [false] x=NP mk N x:=Eq.trans (b:=Io mk (λv=>Bd (Bc (QMa mk) QSX 6 N f31 [Z5] [false] [] 0 BN) N (zU v)) x) (by kernel_rfl) (by rw [funext (BR zU (QTA mk N) N)];rfl)
def Ik (x:Y4):Option Y2:=NP (λ_=>List.replicate) big x
def QRv:Cb:=⟨[VN],[Z5],[false],λx=>Ik x⟩
theorem QXb:Bb prog 31 QRv:=rzl (E:=QMa (λ_=>List.replicate)) (NP (λ_=>List.replicate)) (eO (BO QXT (BO Qbf BS))) func31 (QdL (λ_=>List.replicate))
def QcM:LT:=lT []
noncomputable def Qap:=eN tab []
def dM (x:vX):Option Bool:=
 bif decide (x.1>=0) then some (decide (x.1 < x.2)) else some false
def IB (x:vX):Option Bool:=dM x
def QRw:Cb:=⟨[Z2,Z2],[.bool],[false],λx=>IB x⟩
theorem QXc:Bb prog 143 QRw:=DV Qap QcM (λ_=>IB) (eO BS) func143
def QcN:LT:=lT []
noncomputable def Qaq:=eN tab [(143,QRw)]
def Yp (x:Sj×Int):Option Bool:=
 bif x.1.1==22 then (IB (x.1.2.1,x.2)).bind λx1=>some x1 else bif x.1.1==23 then (IB (x.1.2.2.1,x.2)).bind λx2=>some x2 else some true
def J8 (x:Sj×Int):Option Bool:=Yp x
def QWK:Cb:=⟨[Z3,Z2],[.bool],[false],λx=>J8 x⟩
theorem Qbg:Bb prog 103 QWK:=DV Qaq QcN (λ_=>J8) (eO (BO QXc BS)) func103
def QSY:LT:=lT [(4,[0,14,15,16])]
noncomputable def QRh:=eN tab [(80,QJK),(103,QWK)]
noncomputable def zV (v:Y3×Y3×Int×Int):St:=⟨[sV 0 LX v.1,sV 14 LX v.2.1,sV 15 Z2 v.2.2.1,sV 16 Z2 v.2.2.2],[],[],4096⟩
def Kj (BM:Y3×Y3×Int×Int->Option Int) (v:Y3×Y3×Int×Int):Option Int:=
 bif decide (v.2.2.2 < v.2.2.1) then (BX v.2.1 v.2.2.2).bind λx1=>((Qx x1).bind λx2=>bif x2 != 0 then some (8:Int) else (J8 (x1,(v.1.length:Int))).bind λx3=>bif !x3 then some (8:Int) else let x4:Int:=IntKind.i64.wrap (v.2.2.2+1);BM (v.1,v.2.1,v.2.2.1,x4)) else let x5:Int:=IntKind.i64.wrap ((v.1.length:Int) - 1);(BX v.1 x5).bind λx6=>bif x6.1 != 34 then some (8:Int) else bif x6.2.1 != (-1:Int) then some (8:Int) else some (0:Int)
def Ni (N:Nat) (BM:Y3×Y3×Int×Int->Option Int) (v:Y3×Y3×Int×Int):Option Int:=Kj BM v
theorem QTB (N:Nat) (s0) (v):(Bc QRh QSY 6 N f60 [Z2] [false] [] 0 BN) s0 (zV v)=Ni N (λv=>s0 (zV v)) v:=by kernel_rfl
def R9 (BZ:Y3×Y3×Int×Int->Option Int) (x:Y3):Option Int:=
 bif (x.length:Int)==0 then some (8:Int) else bif decide ((x.length:Int) > 200) then some (8:Int) else BZ (x,x,(x.length:Int),(0:Int))
def LZ (x:Y3):Option Int:=R9 (BP (Ni big) big) x
def QGS:Cb:=⟨[LX],[Z2],[false],λx=>LZ x⟩
theorem QJa:Bb prog 60 QGS:=DV QRh QSY (λN x=>R9 (BP (Ni N) N) x) (eO (BO QMi (BO Qbg BS))) func60 λN x=>Eq.trans (b:=R9 (λv=>Bd (Bc QRh QSY 6 N f60 [Z2] [false] [] 0 BN) N (zV v)) x) (by kernel_rfl) (by rw [funext (BR zV (QTB N) N)] <;> rfl)
def QKM:LT:=lK [] [(30,[])]
noncomputable def QGO (mk:(α:Type)->Nat->α->List α):CO:={ tab:=tab,fs:=[],inl:=[(198,f198,QcP)],rep:=mk }
noncomputable def zW (v:Y54):St:=⟨[(0,.row 0),sV 3 Z2 v.1,(4,(.sub 0 v.2.1 v.2.2.1)),sV 5 Z2 v.2.2.2.1],[(0,.row Z2 v.2.2.2.2)],[(4096,[])],16904192⟩
noncomputable def jv (v:Int×Y2):St:=⟨[(0,.row 0),sV 3 Z2 v.1],[(0,.row Z2 v.2)],[(4096,[])],16904192⟩
def Uh (mk:(α:Type)->Nat->α->List α) (BM:Int×Y2->Option Y2) (BQ:Y54->Option Y2) (v:Y54):Option Y2:=
 bif decide (v.2.2.2.1 < (List.length (List.drop v.2.1 (List.take v.2.2.1 v.2.2.2.2)):Int)) then bif decide (0<=v.2.2.2.1)&&decide (v.2.2.2.1 < (v.2.2.1:Int) - (v.2.1:Int)) then (nth v.2.2.2.2 (Int.toNat ((v.2.1:Int)+v.2.2.2.1))).bind λx9=>let FJ:Int:=IntKind.i64.wrap (v.2.2.2.1 - 1);bif decide (0<=FJ)&&decide (FJ < (v.2.2.1:Int) - (v.2.1:Int)) then (nth v.2.2.2.2 (Int.toNat ((v.2.1:Int)+FJ))).bind λFQ=>bif x9 != FQ then bif decide (0<=v.2.2.2.1)&&decide (v.2.2.2.1 < (v.2.2.1:Int) - (v.2.1:Int)) then (nth v.2.2.2.2 (Int.toNat ((v.2.1:Int)+v.2.2.2.1))).bind λKw=>bif decide (0<=v.1)&&decide (v.1 < (v.2.2.2.2.length:Int)) then let NC:Y2:=List.set v.2.2.2.2 (Int.toNat v.1) Kw;let Ih:Int:=IntKind.i64.wrap (v.1+1);let H7:Int:=IntKind.i64.wrap (v.2.2.2.1+1);BQ (Ih,v.2.1,v.2.2.1,H7,NC) else none else none else let Qn:Int:=IntKind.i64.wrap (v.2.2.2.1+1);BQ (v.1,v.2.1,v.2.2.1,Qn,v.2.2.2.2) else none else none else bif decide (0<=v.1)&&decide (v.1<=((v.2.2.2.2.length):Int)) then let Sg:Y2:=List.append (List.take (Int.toNat v.1) v.2.2.2.2) (List.append (mk Int ((v.2.2.2.2.length) - (Int.toNat v.1)) (0:Int)) (List.drop (v.2.2.2.2.length) v.2.2.2.2));bif decide (0<=v.1)&&decide (v.1<=((Sg.length):Int)) then some (List.drop 0 (List.take (Int.toNat v.1) Sg)) else none else none
def PZ (mk:(α:Type)->Nat->α->List α) (N:Nat) (BM:Int×Y2->Option Y2) (BQ:Y54->Option Y2) (v:Y54):Option Y2:=Uh mk BM BQ v
theorem QTD (mk:(α:Type)->Nat->α->List α) (N:Nat) (s0) (s1) (v):(Bc (QGO mk) QKM 6 N f182 [Z5] [false] [.call 6 11 198] 1 (CS s0 BN)) s1 (zW v)=PZ mk N (λv=>s0 (jv v)) (λv=>s1 (zW v)) v:=by kernel_rfl
def Lx (mk:(α:Type)->Nat->α->List α) (Ca:Y54->Option Y2) (BM:Int×Y2->Option Y2) (v:Int×Y2):Option Y2:=
 bif decide (v.1 < (v.2.length:Int)) then bif decide (0<=v.1)&&decide (v.1 < (v.2.length:Int)) then (nth v.2 (Int.toNat v.1)).bind λx6=>let x7:Int:=IntKind.i64.wrap (v.1 - 1);bif decide (0<=x7)&&decide (x7 < (v.2.length:Int)) then (nth v.2 (Int.toNat x7)).bind λx8=>bif x6==x8 then bif decide (0<=v.1)&&decide (v.1<=((v.2.length):Int)) then Ca (v.1,(Int.toNat v.1),(v.2.length),(1:Int),v.2) else none else let VR:Int:=IntKind.i64.wrap (v.1+1);BM (VR,v.2) else none else none else some v.2
def D5 (mk:(α:Type)->Nat->α->List α) (N:Nat) (BM:Int×Y2->Option Y2) (v:Int×Y2):Option Y2:=Lx mk (BP (PZ mk N BM) N) BM v
theorem QTC (mk:(α:Type)->Nat->α->List α) (N:Nat) (s0) (v):(Bc (QGO mk) QKM 6 N f182 [Z5] [false] [.call 6 11 198] 0 BN) s0 (jv v)=D5 mk N (λv=>s0 (jv v)) v:=Eq.trans (b:=Lx mk (λv=>Bd (Bc (QGO mk) QKM 6 N f182 [Z5] [false] [.call 6 11 198] 1 (CS s0 BN)) N (zW v)) (λv=>s0 (jv v)) v) (by kernel_rfl) (by rw [funext (BR zW (QTD mk N s0) N)];rfl)
def Tz (mk:(α:Type)->Nat->α->List α) (BZ:Int×Y2->Option Y2) (x:Y3×Int):Option Y2:=
 (BX x.1 x.2).bind λx1=>bif x1.1==22 then some ([x1.2.1]:Y2) else bif x1.1==23 then let x2:Int:=IntKind.i64.wrap (x.2+1);let x3:Int:=if x1.2.2.1 < x2 then x1.2.2.1 else x2;let x4:Int:=IntKind.i64.wrap (x.2+1);let x5:Int:=if x1.2.2.1 > x4 then x1.2.2.1 else x4;bif decide ((List.length ([x3,x5]:Y2):Int) < 2) then some ([x3,x5]:Y2) else BZ ((1:Int),([x3,x5]:Y2)) else bif x1.1==34 then bif x1.1==34 then some ([]:List Int) else let VL:Int:=IntKind.i64.wrap (x.2+1);some ([VL]:Y2) else bif x1.1==28 then bif x1.1==28 then some ([]:List Int) else let VT:Int:=IntKind.i64.wrap (x.2+1);some ([VT]:Y2) else bif x1.1==30 then some ([]:List Int) else let x21:Int:=IntKind.i64.wrap (x.2+1);some ([x21]:Y2)
def YE (mk:(α:Type)->Nat->α->List α) (N:Nat) (x:Y3×Int):Option Y2:=Tz mk (BP (D5 mk N) N) x
theorem QdM (mk:(α:Type)->Nat->α->List α) (N:Nat) (x:Y3×Int):rise (QGO mk) QKM 6 N f182 [LX,Z2] [Z5] [false] x=YE mk N x:=Eq.trans (b:=Tz mk (λv=>Bd (Bc (QGO mk) QKM 6 N f182 [Z5] [false] [.call 6 11 198] 0 BN) N (jv v)) x) (by kernel_rfl) (by rw [funext (BR jv (QTC mk N) N)];rfl)
def Md (x:Y3×Int):Option Y2:=YE (λ_=>List.replicate) big x
def QJL:Cb:=⟨[LX,Z2],[Z5],[false],λx=>Md x⟩
theorem QMk:Bb prog 182 QJL:=rzl (E:=QGO (λ_=>List.replicate)) (YE (λ_=>List.replicate)) ⟨OD,BS,λ_ _ _=>rfl,mixed,(Cm (Cj func198 rfl rfl (by kernel_rfl)) Gv),Gy,Gx⟩ func182 (QdM (λ_=>List.replicate))
def QDE:LT:={ live:=[],keep:=[(12,[3])],rf:=[(13,[3],[3])] }
noncomputable def QGP (mk:(α:Type)->Nat->α->List α):CO:={ tab:=tab,fs:=[(182,QJL)],inl:=[(146,f146,QSa),(181,f181,QSZ)],rep:=mk }
noncomputable def zX (v:Y36):St:=⟨[(0,.yl 0),(1,.loc 3 []),(3,.row 4),(4,.row 5),sV 5 Z2 v.1,sV 30 Z5 v.2.1,sV 31 Z2 v.2.2.1,sV 32 Z2 v.2.2.2.1],[(0,.lp (.pair .any (.pair .any (.pair .any (.pair (.loc 1 []) .unit)))) (qOf f144 4 QDE .ready none)),(1,.var yP (.row 2)),(2,.row .bool v.2.2.2.2.1),(3,.var LX (.val ⟨LX,v.2.2.2.2.2.1⟩)),(4,.row .bool v.2.2.2.2.2.2.1),(5,.row Z2 v.2.2.2.2.2.2.2)],[(0,[(0,.yl 0)]),(4096,[(3,.loc 1 [])])],33165312⟩
noncomputable def jw (v:Y85):St:=⟨[(0,.yl 0),(1,.loc 3 []),(3,.row 4),(4,.row 5)],[(0,.lp (.pair .any (.pair .any (.pair .any (.pair (.loc 1 []) .unit)))) (qOf f144 4 QDE .ready none)),(1,.var yP (.row 2)),(2,.row .bool v.1),(3,.var LX (.val ⟨LX,v.2.1⟩)),(4,.row .bool v.2.2.1),(5,.row Z2 v.2.2.2)],[(0,[(0,.yl 0)]),(4096,[(3,.loc 1 [])])],33165312⟩
def R4 (mk:(α:Type)->Nat->α->List α) (BM:Y85->Option Y7) (BQ:Y36->Option Y7) (v:Y36):Option Y7:=
 bif decide (v.2.2.2.1 < v.2.2.1) then (BX v.2.1 v.2.2.2.1).bind λFJ=>bif decide (0<=FJ)&&decide (FJ < (v.2.2.2.2.1.length:Int)) then let FQ:Y7:=List.set v.2.2.2.2.1 (Int.toNat FJ) true;bif decide (0<=FJ)&&decide (FJ < (v.2.2.2.2.2.2.1.length:Int)) then (nth v.2.2.2.2.2.2.1 (Int.toNat FJ)).bind λKw=>bif !Kw then bif decide (0<=FJ)&&decide (FJ < (v.2.2.2.2.2.2.1.length:Int)) then let NC:Y7:=List.set v.2.2.2.2.2.2.1 (Int.toNat FJ) true;bif Nat.ble 1 1&&Nat.ble (List.length v.2.2.2.2.2.2.2+List.length ([FJ]:Y2)) lim then let Ih:Y2:=List.append v.2.2.2.2.2.2.2 ([FJ]:Y2);let H7:Int:=IntKind.i64.wrap (v.2.2.2.1+1);BQ (v.1,v.2.1,v.2.2.1,H7,FQ,v.2.2.2.2.2.1,NC,Ih) else none else none else let Qn:Int:=IntKind.i64.wrap (v.2.2.2.1+1);BQ (v.1,v.2.1,v.2.2.1,Qn,FQ,v.2.2.2.2.2.1,v.2.2.2.2.2.2.1,v.2.2.2.2.2.2.2) else none else none else BM (v.2.2.2.2.1,v.2.2.2.2.2.1,v.2.2.2.2.2.2.1,v.2.2.2.2.2.2.2)
def Vv (mk:(α:Type)->Nat->α->List α) (N:Nat) (BM:Y85->Option Y7) (BQ:Y36->Option Y7) (v:Y36):Option Y7:=R4 mk BM BQ v
theorem QTF (mk:(α:Type)->Nat->α->List α) (N:Nat) (s0) (s1) (v):(Bc (QGP mk) QDE 6 N f144 [yP] [true] [.rng 4 181] 1 (CS s0 BN)) s1 (zX v)=Vv mk N (λv=>s0 (jw v)) (λv=>s1 (zX v)) v:=by kernel_rfl
def Vw (mk:(α:Type)->Nat->α->List α) (Ca:Y36->Option Y7) (BM:Y85->Option Y7) (v:Y85):Option Y7:=
 bif decide ((v.2.2.2.length:Int) > 0) then let x6:Int:=IntKind.i64.wrap ((v.2.2.2.length:Int) - 1);bif decide (0<=x6)&&decide (x6 < (v.2.2.2.length:Int)) then (nth v.2.2.2 (Int.toNat x6)).bind λx7=>let x8:Int:=IntKind.i64.wrap ((v.2.2.2.length:Int) - 1);bif decide (0<=x8)&&decide (x8<=((v.2.2.2.length):Int)) then (Md (v.2.1,x7)).bind λx9=>Ca (x7,x9,(x9.length:Int),(0:Int),v.1,v.2.1,v.2.2.1,(List.take (Int.toNat x8) v.2.2.2)) else none else none else some v.1
def Vu (mk:(α:Type)->Nat->α->List α) (N:Nat) (BM:Y85->Option Y7) (v:Y85):Option Y7:=Vw mk (BP (Vv mk N BM) N) BM v
theorem QTE (mk:(α:Type)->Nat->α->List α) (N:Nat) (s0) (v):(Bc (QGP mk) QDE 6 N f144 [yP] [true] [.rng 4 181] 0 BN) s0 (jw v)=Vu mk N (λv=>s0 (jw v)) v:=Eq.trans (b:=Vw mk (λv=>Bd (Bc (QGP mk) QDE 6 N f144 [yP] [true] [.rng 4 181] 1 (CS s0 BN)) N (zX v)) (λv=>s0 (jw v)) v) (by kernel_rfl) (by rw [funext (BR zX (QTF mk N s0) N)];rfl)
def bN (mk:(α:Type)->Nat->α->List α) (BZ:Y85->Option Y7) (x:Y3):Option Y7:=
 bif decide (0<=(x.length:Int))&&(decide ((x.length:Int)<=(x.length:Int))&&(decide ((x.length:Int)<=68719476736)&&true)) then let x1:Y7:=mk Bool (Int.toNat (x.length:Int)) false;bif decide (0<=(0:Int))&&decide ((0:Int) < (x1.length:Int)) then let x2:Y7:=List.set x1 (Int.toNat (0:Int)) true;bif decide (0<=(x.length:Int))&&(decide ((x.length:Int)<=(x.length:Int))&&(decide ((x.length:Int)<=68719476736)&&true)) then let x3:Y7:=mk Bool (Int.toNat (x.length:Int)) false;bif decide (0<=(0:Int))&&decide ((0:Int) < (x3.length:Int)) then let x4:Y7:=List.set x3 (Int.toNat (0:Int)) true;let x5:Y2:=([(0:Int)]:Y2);BZ (x2,x,x4,x5) else none else none else none else none
def kU (mk:(α:Type)->Nat->α->List α) (N:Nat) (x:Y3):Option Y7:=bN mk (BP (Vu mk N) N) x
theorem QdN (mk:(α:Type)->Nat->α->List α) (N:Nat) (x:Y3):rise (QGP mk) QDE 6 N f144 [LX] [yP] [true] x=kU mk N x:=Eq.trans (b:=bN mk (λv=>Bd (Bc (QGP mk) QDE 6 N f144 [yP] [true] [.rng 4 181] 0 BN) N (jw v)) x) (by kernel_rfl) (by rw [funext (BR jw (QTE mk N) N)];rfl)
def aM (x:Y3):Option Y7:=kU (λ_=>List.replicate) big x
def QRx:Cb:=⟨[LX],[yP],[true],λx=>aM x⟩
theorem QXd:Bb prog 144 QRx:=rzl (E:=QGP (λ_=>List.replicate)) (kU (λ_=>List.replicate)) ⟨OD,(BO QMk BS),λ_ _ _=>rfl,mixed,(Cm (Cj func146 rfl rfl (by kernel_rfl)) (Cm (Cj func181 rfl rfl (by kernel_rfl)) Gv)),Gy,Gx⟩ func144 (QdN (λ_=>List.replicate))
def QcQ:LT:=lT []
noncomputable def Qas:=eN tab [(60,QGS),(144,QRx)]
def WV (x:Y3):Option (Y7×Int):=
 (LZ x).bind λx1=>bif x1 != 0 then some (([]:List Bool),x1) else (aM x).bind λx2=>let x3:Int:=IntKind.i64.wrap ((x.length:Int) - 1);bif decide (0<=x3)&&decide (x3 < (x2.length:Int)) then let x4:Y7:=List.set x2 (Int.toNat x3) true;some (x4,(0:Int)) else none
def RP (x:Y3):Option (Y7×Int):=WV x
def QWL:Cb:=⟨[LX],[yP,Z2],[true,false],λx=>RP x⟩
theorem Qbi:Bb prog 104 QWL:=DV Qas QcQ (λ_=>RP) (eO (BO QJa (BO QXd BS))) func104
def QSb:LT:=lK [] [(13,[2,3])]
noncomputable def QRi:CO:={ tab:=tab,fs:=[(80,QJK),(123,QMc)],inl:=[(81,f81,QYa),(82,f82,QcS),(83,f83,QcR)] }
noncomputable def zY (v:Y75):St:=⟨[(1,(.OH 82 (.pair (.loc 0 []) (.pair (.loc 2 []) .unit)))),(4,.loc 4 []),sV 13 (.arr 3 LU) v.1,sV 14 Z2 v.2.1],[(0,.var Z5 (.row 1)),(1,.row Z2 v.2.2.1),(2,.var Z5 (.row 3)),(3,.row Z2 v.2.2.2.1),(4,.var Z19 (.val ⟨Z19,v.2.2.2.2⟩))],[(4096,[(2,.loc 0 []),(3,.loc 2 [])])],16834560⟩
def X8 (BM:Y75->Option nT) (v:Y75):Option nT:=
 bif decide (v.2.1 < 3) then (BX v.1 v.2.1).bind λx4=>bif x4 != 0 then bif decide (0<=v.2.1)&&decide (v.2.1 < 3) then (nth v.2.2.2.2 (Int.toNat v.2.1)).bind λx5=>bif x4==1 then bif x4==1 then bif x5==(-1:Int) then let x6:Int:=IntKind.i64.wrap (v.2.1+1);BM (v.1,x6,v.2.2.1,v.2.2.2.1,v.2.2.2.2) else bif Nat.ble 1 1&&Nat.ble (List.length v.2.2.1+List.length ([x5]:Y2)) lim then let x7:Y2:=List.append v.2.2.1 ([x5]:Y2);let x8:Int:=IntKind.i64.wrap (v.2.1+1);BM (v.1,x8,x7,v.2.2.2.1,v.2.2.2.2) else none else bif x4==2 then bif x4==2 then bif x5==(-1:Int) then let x9:Int:=IntKind.i64.wrap (v.2.1+1);BM (v.1,x9,v.2.2.1,v.2.2.2.1,v.2.2.2.2) else bif Nat.ble 1 1&&Nat.ble (List.length v.2.2.2.1+List.length ([x5]:Y2)) lim then let FJ:Y2:=List.append v.2.2.2.1 ([x5]:Y2);let FQ:Int:=IntKind.i64.wrap (v.2.1+1);BM (v.1,FQ,v.2.2.1,FJ,v.2.2.2.2) else none else let Kw:Int:=IntKind.i64.wrap (v.2.1+1);BM (v.1,Kw,v.2.2.1,v.2.2.2.1,v.2.2.2.2) else bif x4==4 then bif x5==(-1:Int) then let NC:Int:=IntKind.i64.wrap (v.2.1+1);BM (v.1,NC,v.2.2.1,v.2.2.2.1,v.2.2.2.2) else bif Nat.ble 1 1&&Nat.ble (List.length v.2.2.2.1+List.length ([x5]:Y2)) lim then let Ih:Y2:=List.append v.2.2.2.1 ([x5]:Y2);let H7:Int:=IntKind.i64.wrap (v.2.1+1);BM (v.1,H7,v.2.2.1,Ih,v.2.2.2.2) else none else let Qn:Int:=IntKind.i64.wrap (v.2.1+1);BM (v.1,Qn,v.2.2.1,v.2.2.2.1,v.2.2.2.2) else bif x4==3 then bif x5==(-1:Int) then let Sg:Int:=IntKind.i64.wrap (v.2.1+1);BM (v.1,Sg,v.2.2.1,v.2.2.2.1,v.2.2.2.2) else bif Nat.ble 1 1&&Nat.ble (List.length v.2.2.1+List.length ([x5]:Y2)) lim then let VR:Y2:=List.append v.2.2.1 ([x5]:Y2);let VL:Int:=IntKind.i64.wrap (v.2.1+1);BM (v.1,VL,VR,v.2.2.2.1,v.2.2.2.2) else none else bif x4==2 then bif x4==2 then bif x5==(-1:Int) then let VT:Int:=IntKind.i64.wrap (v.2.1+1);BM (v.1,VT,v.2.2.1,v.2.2.2.1,v.2.2.2.2) else bif Nat.ble 1 1&&Nat.ble (List.length v.2.2.2.1+List.length ([x5]:Y2)) lim then let x21:Y2:=List.append v.2.2.2.1 ([x5]:Y2);let Xd:Int:=IntKind.i64.wrap (v.2.1+1);BM (v.1,Xd,v.2.2.1,x21,v.2.2.2.2) else none else let x23:Int:=IntKind.i64.wrap (v.2.1+1);BM (v.1,x23,v.2.2.1,v.2.2.2.1,v.2.2.2.2) else bif x4==4 then bif x5==(-1:Int) then let x24:Int:=IntKind.i64.wrap (v.2.1+1);BM (v.1,x24,v.2.2.1,v.2.2.2.1,v.2.2.2.2) else bif Nat.ble 1 1&&Nat.ble (List.length v.2.2.2.1+List.length ([x5]:Y2)) lim then let x25:Y2:=List.append v.2.2.2.1 ([x5]:Y2);let jT:Int:=IntKind.i64.wrap (v.2.1+1);BM (v.1,jT,v.2.2.1,x25,v.2.2.2.2) else none else let x27:Int:=IntKind.i64.wrap (v.2.1+1);BM (v.1,x27,v.2.2.1,v.2.2.2.1,v.2.2.2.2) else none else let x28:Int:=IntKind.i64.wrap (v.2.1+1);BM (v.1,x28,v.2.2.1,v.2.2.2.1,v.2.2.2.2) else some (v.2.2.1,v.2.2.2.1,(0:Int))
def Pf (N:Nat) (BM:Y75->Option nT) (v:Y75):Option nT:=X8 BM v
theorem QTG (N:Nat) (s0) (v):(Bc QRi QSb 6 N f36 [Z5,Z5,Z2] [true,false,false] [.call 4 2 81] 0 BN) s0 (zY v)=Pf N (λv=>s0 (zY v)) v:=by kernel_rfl
def VD (BZ:Y75->Option nT) (x:Sj):Option nT:=
 (Qx x).bind λx1=>bif x1 != 0 then some (([]:List Int),([]:List Int),x1) else (KZ x).bind λx2=>(BX gl0 x.1).bind λx3=>BZ (x3.2.1,(0:Int),([]:List Int),([]:List Int),x2)
def OT (x:Sj):Option nT:=VD (BP (Pf big) big) x
def QJM:Cb:=⟨[Z3],[Z5,Z5,Z2],[true,false,false],λx=>OT x⟩
theorem QMl:Bb prog 36 QJM:=DV QRi QSb (λN x=>VD (BP (Pf N) N) x) ⟨OD,(BO QMi (BO QS5 BS)),λ_ _ _=>rfl,mixed,(Cm (Cj func81 rfl rfl (by kernel_rfl)) (Cm (Cj func82 rfl rfl (by kernel_rfl)) (Cm (Cj func83 rfl rfl (by kernel_rfl)) Gv))),Gy,Gx⟩ func36 λN x=>Eq.trans (b:=VD (λv=>Bd (Bc QRi QSb 6 N f36 [Z5,Z5,Z2] [true,false,false] [.call 4 2 81] 0 BN) N (zY v)) x) (by kernel_rfl) (by rw [funext (BR zY (QTG N) N)] <;> rfl)
def QKN:LT:={ live:=[(3,[0,3,9,10,11]),(11,[6,25,26,27])],keep:=[(24,[0])],stk:=[6] }
noncomputable def QGQ (mk:(α:Type)->Nat->α->List α):CO:={ tab:=tab,fs:=[],inl:=[(119,f119,QcU)],rep:=mk }
noncomputable def zZ (v:Y77):St:=⟨[(6,.row 0),sV 25 Z20 v.1,sV 26 Z2 v.2.1,sV 27 Z2 v.2.2.1],[(0,.row Z2 v.2.2.2)],[],4096⟩
noncomputable def jy (v:Y52):St:=⟨[sV 0 Z20 v.1,sV 3 Z2 v.2.1,sV 9 Z20 v.2.2.1,sV 10 Z2 v.2.2.2.1,sV 11 Z2 v.2.2.2.2],[],[],4096⟩
def IY (mk:(α:Type)->Nat->α->List α) (BM:Y52->Option Y2) (BQ:Y77->Option Y2) (v:Y77):Option Y2:=
 bif decide (v.2.2.1 < v.2.1) then (BX v.1 v.2.2.1).bind λx7=>bif Nat.ble 1 1&&Nat.ble (List.length v.2.2.2+x7.length) lim then let x8:Int:=IntKind.i64.wrap (v.2.2.1+1);BQ (v.1,v.2.1,x8,(List.append v.2.2.2 x7)) else none else some v.2.2.2
def DK (mk:(α:Type)->Nat->α->List α) (N:Nat) (BM:Y52->Option Y2) (BQ:Y77->Option Y2) (v:Y77):Option Y2:=IY mk BM BQ v
theorem QTI (mk:(α:Type)->Nat->α->List α) (N:Nat) (s0:St->Option Y2) (s1) (v):(Bc (QGQ mk) QKN 6 N f69 [Z5] [true] [] 1 BN) s1 (zZ v)=DK mk N (λv=>s0 (jy v)) (λv=>s1 (zZ v)) v:=by kernel_rfl
def DL (mk:(α:Type)->Nat->α->List α) (Ca:Y77->Option Y2) (BM:Y52->Option Y2) (v:Y52):Option Y2:=
 bif decide (v.2.2.2.2 < v.2.2.2.1) then (BX v.2.2.1 v.2.2.2.2).bind λx1=>let x2:Int:=IntKind.i64.wrap (v.2.1+(x1.length:Int));bif decide (x2 < 0) then none else let x3:Int:=IntKind.i64.wrap (v.2.2.2.2+1);BM (v.1,x2,v.2.2.1,v.2.2.2.1,x3) else bif decide (v.2.1 < 0) then none else let x4:Int:=IntKind.i64.wrap ((0:Int) - (List.length ([]:List Int):Int));let x5:Int:=IntKind.i64.wrap (v.2.1 - x4);bif decide (x5 > 0) then bif decide ((0:Int)=0) then bif decide (1<=x5)&&decide (x5<=(lim:Int)) then bif Nat.ble 1 1&&Nat.ble (List.length ([]:List Int)+List.length (mk Int (Int.toNat x5) (0:Int))) lim then let x6:Y2:=List.append ([]:List Int) (mk Int (Int.toNat x5) (0:Int));bif decide (0<=(List.length ([]:List Int):Int))&&decide ((List.length ([]:List Int):Int)<=((x6.length):Int)) then Ca (v.1,(v.1.length:Int),(0:Int),(List.take (Int.toNat (List.length ([]:List Int):Int)) x6)) else none else none else none else none else Ca (v.1,(v.1.length:Int),(0:Int),([]:List Int))
def DJ (mk:(α:Type)->Nat->α->List α) (N:Nat) (BM:Y52->Option Y2) (v:Y52):Option Y2:=DL mk (BP (DK mk N BM) N) BM v
theorem QTH (mk:(α:Type)->Nat->α->List α) (N:Nat) (s0) (v):(Bc (QGQ mk) QKN 6 N f69 [Z5] [true] [] 0 BN) s0 (jy v)=DJ mk N (λv=>s0 (jy v)) v:=Eq.trans (b:=DL mk (λv=>Bd (Bc (QGQ mk) QKN 6 N f69 [Z5] [true] [] 1 BN) N (zZ v)) (λv=>s0 (jy v)) v) (by kernel_rfl) (by rw [funext (BR zZ (QTI mk N s0) N)];rfl)
def F8 (mk:(α:Type)->Nat->α->List α) (BZ:Y52->Option Y2) (x:Si):Option Y2:=
 BZ (x,(0:Int),x,(x.length:Int),(0:Int))
def Jv (mk:(α:Type)->Nat->α->List α) (N:Nat) (x:Si):Option Y2:=F8 mk (BP (DJ mk N) N) x
theorem QdO (mk:(α:Type)->Nat->α->List α) (N:Nat) (x:Si):rise (QGQ mk) QKN 6 N f69 [Z20] [Z5] [true] x=Jv mk N x:=Eq.trans (b:=F8 mk (λv=>Bd (Bc (QGQ mk) QKN 6 N f69 [Z5] [true] [] 0 BN) N (jy v)) x) (by kernel_rfl) (by rw [funext (BR jy (QTH mk N) N)];rfl)
def EY (x:Si):Option Y2:=Jv (λ_=>List.replicate) big x
def QRy:Cb:=⟨[Z20],[Z5],[true],λx=>EY x⟩
theorem QXe:Bb prog 69 QRy:=rzl (E:=QGQ (λ_=>List.replicate)) (Jv (λ_=>List.replicate)) ⟨OD,BS,λ_ _ _=>rfl,mixed,(Cm (Cj func119 rfl rfl (by kernel_rfl)) Gv),Gy,Gx⟩ func69 (QdO (λ_=>List.replicate))
def QcV:LT:=lT []
noncomputable def Qau:=eN tab []
def WU (x:Sj):Option (Int×Bool):=
 bif x.1==25 then some (x.2.2.1,true) else bif x.1==26 then bif x.1==26 then some (x.2.1,true) else some ((0:Int),false) else bif x.1==27 then some (x.2.1,true) else some ((0:Int),false)
def NW (x:Sj):Option (Int×Bool):=WU x
def QRz:Cb:=⟨[Z3],[Z2,.bool],[false,false],λx=>NW x⟩
theorem QXf:Bb prog 70 QRz:=DV Qau QcV (λ_=>NW) (eO BS) func70
def QSc:LT:=lT [(3,[2,3,21,22,23])]
noncomputable def QRj:=eN tab [(36,QJM),(69,QRy),(70,QRz)]
noncomputable def za (v:Y59):St:=⟨[(2,.loc 0 []),(3,.loc 1 []),(21,.row 2),sV 22 Z2 v.1,sV 23 Z2 v.2.1],[(0,.var Z7 (.val ⟨Z7,v.2.2.1⟩)),(1,.var Z3 (.val ⟨Z3,v.2.2.2.1⟩)),(2,.row Z2 v.2.2.2.2)],[],4096⟩
def IV (BM:Y59->Option Bool) (v:Y59):Option Bool:=
 bif decide (v.2.1 < v.1) then bif decide (0<=v.2.1)&&decide (v.2.1 < (v.2.2.2.2.length:Int)) then (nth v.2.2.2.2 (Int.toNat v.2.1)).bind λx4=>bif decide (x4>=(v.2.2.1.2.1.2.2.2.1.length:Int)) then some false else let x5:Int:=IntKind.i64.wrap (v.2.1+1);BM (v.1,x5,v.2.2.1,v.2.2.2.1,v.2.2.2.2) else none else (NW v.2.2.2.1).bind λx6=>bif x6.2 then some (decide (x6.1 < (v.2.2.1.1.2.2.1.length:Int))) else bif v.2.2.2.1.1 != 2 then some true else some (decide (v.2.2.2.1.2.2.1 < (v.2.2.1.1.2.1.length:Int)))
def Cg (N:Nat) (BM:Y59->Option Bool) (v:Y59):Option Bool:=IV BM v
theorem QTJ (N:Nat) (s0) (v):(Bc QRj QSc 6 N f34 [.bool] [false] [] 0 BN) s0 (za v)=Cg N (λv=>s0 (za v)) v:=by kernel_rfl
def El (BZ:Y59->Option Bool) (x:Y8×Sj):Option Bool:=
 (OT x.2).bind λx1=>let x2:Si:=([x1.1,x1.2.1]:Si);(EY x2).bind λx3=>BZ ((x3.length:Int),(0:Int),x.1,x.2,x3)
def F5 (x:Y8×Sj):Option Bool:=El (BP (Cg big) big) x
def QS0:Cb:=⟨[Z7,Z3],[.bool],[false],λx=>F5 x⟩
theorem QXg:Bb prog 34 QS0:=DV QRj QSc (λN x=>El (BP (Cg N) N) x) (eO (BO QMl (BO QXe (BO QXf BS)))) func34 λN x=>Eq.trans (b:=El (λv=>Bd (Bc QRj QSc 6 N f34 [.bool] [false] [] 0 BN) N (za v)) x) (by kernel_rfl) (by rw [funext (BR za (QTJ N) N)] <;> rfl)
def QcW:LT:=lT []
noncomputable def Qav:=eN tab []
def NU (x:Y8×Int):Option Int:=
 (BX x.1.2.1.2.2.2.1 x.2).bind λx1=>some x1.2.1
def Bq (x:Y8×Int):Option Int:=NU x
def QAy:Cb:=⟨[Z7,Z2],[Z2],[false],λx=>Bq x⟩
theorem QDA:Bb prog 72 QAy:=DV Qav QcW (λ_=>Bq) (eO BS) func72
def QcX:LT:=lT []
noncomputable def Qaw:=eN tab [(72,QAy)]
def NS (x:Y8×Int):Option Int:=
 (Bq (x.1,x.2)).bind λx1=>(BX x.1.1.1 x1).bind λx2=>some x2.1
def DN (x:Y8×Int):Option Int:=NS x
def QMe:Cb:=⟨[Z7,Z2],[LU],[false],λx=>DN x⟩
theorem QS8:Bb prog 74 QMe:=DV Qaw QcX (λ_=>DN) (eO (BO QDA BS)) func74
def QSd:LT:=lK [] [(9,[])]
noncomputable def QRk:CO:={ tab:=tab,fs:=[(74,QMe)],inl:=[(114,f114,QMq),(120,f120,QcY),(153,f153,QMp)] }
noncomputable def ze (v:Y60):St:=⟨[sV 0 Z5 v.1,(1,(.OH 120 (.pair (.loc 0 []) (.pair (.loc 1 []) .unit)))),sV 7 Z2 v.2.1,sV 8 Z2 v.2.2.1],[(0,.var Z7 (.val ⟨Z7,v.2.2.2.1⟩)),(1,.var LU (.val ⟨LU,v.2.2.2.2⟩))],[(16818176,[]),(4096,[])],68887281664⟩
def OU (BM:Y60->Option Bool) (v:Y60):Option Bool:=
 bif decide (v.2.2.1 < v.2.1) then (BX v.1 v.2.2.1).bind λx1=>((DN (v.2.2.2.1,x1)).bind λx2=>bif x2 != v.2.2.2.2 then some (!(decide (v.2.2.1>=0))) else let x3:Int:=IntKind.i64.wrap (v.2.2.1+1);BM (v.1,v.2.1,x3,v.2.2.2.1,v.2.2.2.2)) else some (!(decide ((-1:Int)>=0)))
def EC (N:Nat) (BM:Y60->Option Bool) (v:Y60):Option Bool:=OU BM v
theorem QTK (N:Nat) (s0) (v):(Bc QRk QSd 6 N f71 [.bool] [false] [.call 1 2 114,.call 1 2 153] 0 BN) s0 (ze v)=EC N (λv=>s0 (ze v)) v:=by kernel_rfl
def JZ (BZ:Y60->Option Bool) (x:Y8×Int×Y2):Option Bool:=
 BZ (x.2.2,(x.2.2.length:Int),(0:Int),x.1,x.2.1)
def Bf (x:Y8×Int×Y2):Option Bool:=JZ (BP (EC big) big) x
def QWM:Cb:=⟨[Z7,LU,Z5],[.bool],[false],λx=>Bf x⟩
theorem Qbj:Bb prog 71 QWM:=DV QRk QSd (λN x=>JZ (BP (EC N) N) x) ⟨OD,(BO QS8 BS),λ_ _ _=>rfl,mixed,(Cm (Cj func114 rfl rfl (by kernel_rfl)) (Cm (Cj func120 rfl rfl (by kernel_rfl)) (Cm (Cj func153 rfl rfl (by kernel_rfl)) Gv))),Gy,Gx⟩ func71 λN x=>Eq.trans (b:=JZ (λv=>Bd (Bc QRk QSd 6 N f71 [.bool] [false] [.call 1 2 114,.call 1 2 153] 0 BN) N (ze v)) x) (by kernel_rfl) (by rw [funext (BR ze (QTK N) N)] <;> rfl)
def QSe:LT:=lT [(2,[0,1,7,8])]
noncomputable def QRl:=eN tab []
noncomputable def zf (v:Y76):St:=⟨[sV 0 Sd v.1,sV 1 LU v.2.1,sV 7 Z2 v.2.2.1,sV 8 Z2 v.2.2.2],[],[],4096⟩
def Tv (BM:Y76->Option Int) (v:Y76):Option Int:=
 bif decide (v.2.2.2 < v.2.2.1) then (BX v.1 v.2.2.2).bind λx1=>bif v.2.1==x1 then some v.2.2.2 else let x2:Int:=IntKind.i64.wrap (v.2.2.2+1);BM (v.1,v.2.1,v.2.2.1,x2) else some (-1:Int)
def F6 (N:Nat) (BM:Y76->Option Int) (v:Y76):Option Int:=Tv BM v
theorem QTL (N:Nat) (s0) (v):(Bc QRl QSe 6 N f159 [Z2] [false] [] 0 BN) s0 (zf v)=F6 N (λv=>s0 (zf v)) v:=by kernel_rfl
def Gw (BZ:Y76->Option Int) (x:Y2×Int):Option Int:=
 BZ (x.1,x.2,(x.1.length:Int),(0:Int))
def ND (x:Y2×Int):Option Int:=Gw (BP (F6 big) big) x
def QWN:Cb:=⟨[Sd,LU],[Z2],[false],λx=>ND x⟩
theorem Qbk:Bb prog 159 QWN:=DV QRl QSe (λN x=>Gw (BP (F6 N) N) x) (eO BS) func159 λN x=>Eq.trans (b:=Gw (λv=>Bd (Bc QRl QSe 6 N f159 [Z2] [false] [] 0 BN) N (zf v)) x) (by kernel_rfl) (by rw [funext (BR zf (QTL N) N)] <;> rfl)
def QcZ:LT:=lT []
noncomputable def Qax:=eN tab [(159,QWN)]
def TM (x:Y2×Int):Option Bool:=
 (ND (x.1,x.2)).bind λx1=>some (decide (x1>=0))
def Fa (x:Y2×Int):Option Bool:=TM x
def QWO:Cb:=⟨[Sd,LU],[.bool],[false],λx=>Fa x⟩
theorem Qbl:Bb prog 121 QWO:=DV Qax QcZ (λ_=>Fa) (eO (BO Qbk BS)) func121
def Qca:LT:=lT []
noncomputable def Qay:=eN tab [(121,QWO)]
def QAB (x:Int×Y2):Option Bool:=
 (Fa (x.2,x.1)).bind λx1=>some x1
def Jm (x:Int×Y2):Option Bool:=QAB x
def QMf:Cb:=⟨[LU,Sd],[.bool],[false],λx=>Jm x⟩
theorem QS9:Bb prog 77 QMf:=DV Qay Qca (λ_=>Jm) (eO (BO Qbl BS)) func77
def Qcb:LT:=lT []
noncomputable def Qaz:=eN tab [(77,QMf)]
def U3 (x:Int):Option Bool:=
 let x1:Y2:=([(2:Int),(1:Int),(4:Int)]:Y2);(Jm (x,x1)).bind λx2=>some x2
def LY (x:Int):Option Bool:=U3 x
def QS1:Cb:=⟨[LU],[.bool],[false],λx=>LY x⟩
theorem QXh:Bb prog 73 QS1:=DV Qaz Qcb (λ_=>LY) (eO (BO QS9 BS)) func73
def Qcc:LT:=lT []
noncomputable def Qb0:=eN tab [(72,QAy)]
def MP (x:Y8×Int×Int×Int):Option Bool:=
 (Bq (x.1,x.2.2.1)).bind λx1=>(BX x.1.1.1 x1).bind λx2=>bif decide (x.2.2.2 < (x2.2.2.2.1.length:Int)) then (BX x2.2.2.2.1 x.2.2.2).bind λx3=>(Bq (x.1,x.2.1)).bind λx4=>some (x3.2.1==x4) else some false
def FK (x:Y8×Int×Int×Int):Option Bool:=MP x
def QWP:Cb:=⟨[Z7,Z2,Z2,Z2],[.bool],[false],λx=>FK x⟩
theorem Qbm:Bb prog 75 QWP:=DV Qb0 Qcc (λ_=>FK) (eO (BO QDA BS)) func75
def Qcd:LT:=lT []
noncomputable def Qb1:=eN tab [(72,QAy),(74,QMe),(77,QMf)]
def NR (x:Y8×Int×Int×Y2):Option Bool:=
 (DN (x.1,x.2.2.1)).bind λx1=>(Jm (x1,x.2.2.2)).bind λx2=>bif x2 then (Bq (x.1,x.2.2.1)).bind λx3=>(BX x.1.1.1 x3).bind λx4=>(Bq (x.1,x.2.1)).bind λx5=>some (x4.2.1==x5) else some false
def Dl (x:Y8×Int×Int×Y2):Option Bool:=NR x
def QWQ:Cb:=⟨[Z7,Z2,Z2,Sd],[.bool],[false],λx=>Dl x⟩
theorem Qbn:Bb prog 76 QWQ:=DV Qb1 Qcd (λ_=>Dl) (eO (BO QDA (BO QS8 (BO QS9 BS)))) func76
def Qce:LT:=lT []
noncomputable def Qb2:=eN tab [(72,QAy)]
def Ib (x:Y8×Int×Y0):Option Bool:=
 bif x.2.1==(-1:Int) then some true else (Bq (x.1,x.2.1)).bind λx1=>some (x1==x.2.2.2.2.1)
def Dy (x:Y8×Int×Y0):Option Bool:=Ib x
def QWR:Cb:=⟨[Z7,Z2,Z0],[.bool],[false],λx=>Dy x⟩
theorem Qbo:Bb prog 78 QWR:=DV Qb2 Qce (λ_=>Dy) (eO (BO QDA BS)) func78
def Qcf:LT:=lT []
noncomputable def Qb3:=eN tab [(73,QS1)]
def Jz (x:Y8×Y0):Option Bool:=
 bif x.2.2.2.1 != (-1:Int) then some false else bif decide (x.2.2.1 > 1) then some false else bif x.2.2.1==0 then some true else (BX x.2.2.2.2.1 (0:Int)).bind λx1=>(BX x.1.1.1 x1.2.1).bind λx2=>(LY x2.1).bind λx3=>some x3
def EX (x:Y8×Y0):Option Bool:=Jz x
def QWS:Cb:=⟨[Z7,Z0],[.bool],[false],λx=>EX x⟩
theorem Qbp:Bb prog 79 QWS:=DV Qb3 Qcf (λ_=>EX) (eO (BO QXh BS)) func79
def Qcg:LT:={ live:=[],keep:=[],cnd:=[7,22,41,224,244] }
noncomputable def Qb4:=eN tab [(71,QWM),(72,QAy),(73,QS1),(74,QMe),(75,QWP),(76,QWQ),(77,QMf),(78,QWR),(79,QWS)]
def QE (x:Y8×Sj):Option Bool:=
 bif x.2.1==1 then (Bf (x.1,(2:Int),([x.2.2.1]:Y2))).bind λx1=>some x1 else bif x.2.1==32 then (Bf (x.1,(2:Int),([x.2.2.1]:Y2))).bind λx2=>some x2 else bif x.2.1==2 then (Bf (x.1,(3:Int),([x.2.2.1]:Y2))).bind λx3=>some x3 else bif x.2.1==3 then (Bf (x.1,(1:Int),([x.2.2.1]:Y2))).bind λx4=>some x4 else bif x.2.1==23 then (Bf (x.1,(1:Int),([x.2.2.1]:Y2))).bind λx5=>some x5 else bif x.2.1==5 then (Bq (x.1,x.2.2.1)).bind λx6=>(Bq (x.1,x.2.2.2.1)).bind λx7=>some (x6==x7) else bif x.2.1==6 then let x8:Y2:=([x.2.2.1,x.2.2.2.1,x.2.2.2.2.1]:Y2);(Bf (x.1,(2:Int),x8)).bind λx9=>some x9 else bif x.2.1==7 then let FJ:Y2:=([x.2.2.1,x.2.2.2.1,x.2.2.2.2.1]:Y2);(Bf (x.1,(2:Int),FJ)).bind λFQ=>some FQ else bif x.2.1==8 then let Kw:Y2:=([x.2.2.1,x.2.2.2.1,x.2.2.2.2.1]:Y2);(Bf (x.1,(2:Int),Kw)).bind λNC=>some NC else bif x.2.1==9 then let Ih:Y2:=([x.2.2.1,x.2.2.2.1,x.2.2.2.2.1]:Y2);(Bf (x.1,(2:Int),Ih)).bind λH7=>some H7 else bif x.2.1==10 then (Bf (x.1,(1:Int),([x.2.2.1]:Y2))).bind λQn=>bif Qn then let Sg:Y2:=([x.2.2.2.1,x.2.2.2.2.1]:Y2);(Bf (x.1,(2:Int),Sg)).bind λVR=>some VR else some false else bif x.2.1==11 then (Bf (x.1,(1:Int),([x.2.2.1]:Y2))).bind λVL=>bif VL then (Bq (x.1,x.2.2.2.1)).bind λVT=>(Bq (x.1,x.2.2.2.2.1)).bind λx21=>bif VT==x21 then (DN (x.1,x.2.2.2.1)).bind λXd=>(LY Xd).bind λx23=>some x23 else some false else some false else bif x.2.1==12 then let x24:Y2:=([x.2.2.1,x.2.2.2.1]:Y2);(Bf (x.1,(1:Int),x24)).bind λx25=>some x25 else bif x.2.1==13 then (FK (x.1,x.2.2.1,x.2.2.2.1,x.2.2.2.2.1)).bind λjT=>some jT else bif x.2.1==14 then (FK (x.1,x.2.2.2.2.1,x.2.2.1,x.2.2.2.1)).bind λx27=>some x27 else bif x.2.1==15 then (Bf (x.1,(4:Int),([x.2.2.1]:Y2))).bind λx28=>some x28 else bif x.2.1==16 then let x29:Y2:=([(4:Int)]:Y2);(Dl (x.1,x.2.2.1,x.2.2.2.1,x29)).bind λx30=>some x30 else bif x.2.1==17 then let x31:Y2:=([(4:Int)]:Y2);(Dl (x.1,x.2.2.2.1,x.2.2.1,x31)).bind λx32=>some x32 else bif x.2.1==18 then (Bf (x.1,(7:Int),([x.2.2.1]:Y2))).bind λx33=>bif x33 then let x34:Y2:=([x.2.2.2.1]:Y2);(Bf (x.1,(2:Int),x34)).bind λx35=>some x35 else some false else bif x.2.1==19 then let x36:Y2:=([(7:Int),(6:Int)]:Y2);((Dl (x.1,x.2.2.1,x.2.2.2.1,x36)).bind λx37=>bif x37 then let x38:Y2:=([x.2.2.2.2.1]:Y2);(Bf (x.1,(2:Int),x38)).bind λx39=>some x39 else some false) else bif x.2.1==20 then let x40:Y2:=([(7:Int),(6:Int)]:Y2);((Dl (x.1,x.2.2.2.2.1,x.2.2.1,x40)).bind λx41=>bif x41 then let x42:Y2:=([x.2.2.2.1]:Y2);(Bf (x.1,(2:Int),x42)).bind λx43=>some x43 else some false) else bif x.2.1==21 then (Bf (x.1,(2:Int),([x.2.2.1]:Y2))).bind λx44=>bif x44 then (DN (x.1,x.2.2.2.1)).bind λx45=>let x46:Y2:=([(3:Int),(7:Int),(6:Int)]:Y2);(Jm (x45,x46)).bind λx47=>some x47 else some false else bif x.2.1==25 then (BX x.1.1.2.2.1 x.2.2.2.1).bind λx48=>(Dy (x.1,x.2.2.1,x48)).bind λx49=>some x49 else bif x.2.1==26 then (BX x.1.1.2.2.1 x.2.2.1).bind λx50=>(EX (x.1,x50)).bind λx51=>some x51 else bif x.2.1==27 then (BX x.1.1.2.2.1 x.2.2.1).bind λx52=>(EX (x.1,x52)).bind λx53=>some x53 else bif x.2.1==28 then (DN (x.1,x.2.2.1)).bind λx54=>let x55:Y2:=([(2:Int),(1:Int),(3:Int)]:Y2);(Jm (x54,x55)).bind λx56=>some x56 else bif x.2.1==29 then (Bf (x.1,(1:Int),([x.2.2.1]:Y2))).bind λx57=>bif x57 then let x58:Y2:=([x.2.2.2.1]:Y2);(Bf (x.1,(2:Int),x58)).bind λx59=>some x59 else some false else bif x.2.1==33 then (Bf (x.1,(1:Int),([x.2.2.1]:Y2))).bind λx60=>bif x60 then let x61:Y2:=([x.2.2.2.1]:Y2);(Bf (x.1,(2:Int),x61)).bind λx62=>some x62 else some false else bif x.2.1==34 then (Dy (x.1,x.2.2.1,x.1.2.1)).bind λx63=>some x63 else some true
def G7 (x:Y8×Sj):Option Bool:=QE x
def QS2:Cb:=⟨[Z7,Z3],[.bool],[false],λx=>G7 x⟩
theorem QXi:Bb prog 35 QS2:=DV Qb4 Qcg (λ_=>G7) (eO (BO Qbj (BO QDA (BO QXh (BO QS8 (BO Qbm (BO Qbn (BO QS9 (BO Qbo (BO Qbp BS)))))))))) func35
def QSf:LT:=lT [(3,[1,4,17,18,19])]
noncomputable def QRm:=eN tab [(34,QS0),(35,QS2),(104,QWL)]
noncomputable def zh (v:Y70):St:=⟨[(1,.loc 0 []),(4,.row 1),sV 17 LX v.1,sV 18 Z2 v.2.1,sV 19 Z2 v.2.2.1],[(0,.var Z7 (.val ⟨Z7,v.2.2.2.1⟩)),(1,.row .bool v.2.2.2.2)],[],4096⟩
def Gt (BM:Y70->Option ZC) (v:Y70):Option ZC:=
 bif decide (v.2.2.1 < v.2.1) then (BX v.1 v.2.2.1).bind λx2=>((F5 (v.2.2.2.1,x2)).bind λx3=>bif !x3 then some (v.2.2.1,(16:Int)) else bif decide (0<=v.2.2.1)&&decide (v.2.2.1 < (v.2.2.2.2.length:Int)) then (nth v.2.2.2.2 (Int.toNat v.2.2.1)).bind λx4=>bif !x4 then some (v.2.2.1,(6:Int)) else (G7 (v.2.2.2.1,x2)).bind λx5=>bif !x5 then some (v.2.2.1,(30:Int)) else let x6:Int:=IntKind.i64.wrap (v.2.2.1+1);BM (v.1,v.2.1,x6,v.2.2.2.1,v.2.2.2.2) else none) else some ((0:Int),(0:Int))
def CZ (N:Nat) (BM:Y70->Option ZC) (v:Y70):Option ZC:=Gt BM v
theorem QTM (N:Nat) (s0) (v):(Bc QRm QSf 6 N f61 [Z2,Z2] [false,false] [] 0 BN) s0 (zh v)=CZ N (λv=>s0 (zh v)) v:=by kernel_rfl
def EN (BZ:Y70->Option ZC) (x:Y8):Option ZC:=
 (RP x.2.1.2.2.2.2.1).bind λx1=>BZ (x.2.1.2.2.2.2.1,(x.2.1.2.2.2.2.1.length:Int),(0:Int),x,x1.1)
def EG (x:Y8):Option ZC:=EN (BP (CZ big) big) x
def QWT:Cb:=⟨[Z7],[Z2,Z2],[false,false],λx=>EG x⟩
theorem Qbq:Bb prog 61 QWT:=DV QRm QSf (λN x=>EN (BP (CZ N) N) x) (eO (BO QXg (BO QXi (BO Qbi BS)))) func61 λN x=>Eq.trans (b:=EN (λv=>Bd (Bc QRm QSf 6 N f61 [Z2,Z2] [false,false] [] 0 BN) N (zh v)) x) (by kernel_rfl) (by rw [funext (BR zh (QTM N) N)] <;> rfl)
def QXq:LT:=lT []
noncomputable def QV8:=eN tab [(72,QAy)]
def NT (x:Y8×Sj):Option Y2:=
 bif x.2.1 != 24 then some ([]:List Int) else (Bq (x.1,x.2.2.1)).bind λx1=>some ([x1]:Y2)
def Fy (x:Y8×Sj):Option Y2:=NT x
def QIt:Cb:=⟨[Z7,Z3],[Z5],[true],λx=>Fy x⟩
theorem QQE:Bb prog 106 QIt:=DV QV8 QXq (λ_=>Fy) (eO (BO QDA BS)) func106
def QJh:LT:=lT [(3,[0,5,8,9,10])]
noncomputable def QIG:=eN tab []
noncomputable def nW (v:Y61):St:=⟨[sV 0 Z5 v.1,sV 5 Z2 v.2.1,sV 8 Z5 v.2.2.1,sV 9 Z2 v.2.2.2.1,sV 10 Z2 v.2.2.2.2],[],[],4096⟩
def Ug (BM:Y61->Option Int) (v:Y61):Option Int:=
 bif decide (v.2.2.2.2 < v.2.2.2.1) then (BX v.2.2.1 v.2.2.2.2).bind λx1=>((BX v.1 x1).bind λx2=>let x3:Int:=IntKind.i64.wrap (v.2.1+x2);let x4:Int:=IntKind.i64.wrap (v.2.2.2.2+1);BM (v.1,x3,v.2.2.1,v.2.2.2.1,x4)) else some v.2.1
def GV (N:Nat) (BM:Y61->Option Int) (v:Y61):Option Int:=Ug BM v
theorem QMu (N:Nat) (s0) (v):(Bc QIG QJh 6 N f105 [Z2] [false] [] 0 BN) s0 (nW v)=GV N (λv=>s0 (nW v)) v:=by kernel_rfl
def QF (BZ:Y61->Option Int) (x:Y2×Y2):Option Int:=
 BZ (x.1,(0:Int),x.2,(x.2.length:Int),(0:Int))
def TW (x:Y2×Y2):Option Int:=QF (BP (GV big) big) x
def QPJ:Cb:=⟨[Z5,Z5],[Z2],[false],λx=>TW x⟩
theorem QWW:Bb prog 105 QPJ:=DV QIG QJh (λN x=>QF (BP (GV N) N) x) (eO BS) func105 λN x=>Eq.trans (b:=QF (λv=>Bd (Bc QIG QJh 6 N f105 [Z2] [false] [] 0 BN) N (nW v)) x) (by kernel_rfl) (by rw [funext (BR nW (QMu N) N)] <;> rfl)
def QJi:LT:=lT [(6,[7,31,32,33])]
noncomputable def QIH:=eN tab [(70,QRz)]
noncomputable def nX (v:Y79):St:=⟨[(7,.row 0),sV 31 Z8 v.1,sV 32 Z2 v.2.1,sV 33 Z2 v.2.2.1],[(0,.row Z2 v.2.2.2)],[],4096⟩
def Lv (BM:Y79->Option Y2) (v:Y79):Option Y2:=
 bif decide (v.2.2.1 < v.2.1) then (BX v.1 v.2.2.1).bind λx5=>bif Nat.ble 1 1&&Nat.ble (List.length v.2.2.2+List.length ([x5.2.1]:Y2)) lim then let x6:Y2:=List.append v.2.2.2 ([x5.2.1]:Y2);let x7:Int:=IntKind.i64.wrap (v.2.2.1+1);BM (v.1,v.2.1,x7,x6) else none else some v.2.2.2
def Da (N:Nat) (BM:Y79->Option Y2) (v:Y79):Option Y2:=Lv BM v
theorem QMv (N:Nat) (s0) (v):(Bc QIH QJi 6 N f107 [Z5] [true] [] 0 BN) s0 (nX v)=Da N (λv=>s0 (nX v)) v:=by kernel_rfl
def Gj (BZ:Y79->Option Y2) (x:Y8×Sj):Option Y2:=
 (NW x.2).bind λx1=>bif !x1.2 then some ([]:List Int) else (BX x.1.1.2.2.1 x1.1).bind λx2=>((BX x.1.1.2.2.1 x1.1).bind λx3=>bif decide (0<=x3.2.1)&&decide (x3.2.1<=(x2.2.2.2.1.length:Int)) then let x4:Y6:=List.take (Int.toNat x3.2.1) x2.2.2.2.1;BZ (x4,(x4.length:Int),(0:Int),([]:List Int)) else none)
def Jp (x:Y8×Sj):Option Y2:=Gj (BP (Da big) big) x
def QIu:Cb:=⟨[Z7,Z3],[Z5],[true],λx=>Jp x⟩
theorem QQF:Bb prog 107 QIu:=DV QIH QJi (λN x=>Gj (BP (Da N) N) x) (eO (BO QXf BS)) func107 λN x=>Eq.trans (b:=Gj (λv=>Bd (Bc QIH QJi 6 N f107 [Z5] [true] [] 0 BN) N (nX v)) x) (by kernel_rfl) (by rw [funext (BR nX (QMv N) N)] <;> rfl)
def QXr:LT:=lT []
noncomputable def QV9:=eN tab []
def U4 (x:Int):Option Bool:=
 bif decide (x < (-4096:Int)) then some true else some (decide (x > 4096))
def Oz (x:Int):Option Bool:=U4 x
def QPK:Cb:=⟨[Z2],[.bool],[false],λx=>Oz x⟩
theorem QWX:Bb prog 145 QPK:=DV QV9 QXr (λ_=>Oz) (eO BS) func145
def QXs:LT:=lT []
noncomputable def QVA:=eN tab []
def WW (x:Int×Int×Int):Option Bool:=
 let x1:Int:=IntKind.i64.wrap (x.2.2 - 1);bif x.2.1==x1 then some (x.1==0) else bif decide (x.1>=0) then some (decide (x.1<=4096)) else some false
def RQ (x:Int×Int×Int):Option Bool:=WW x
def QPL:Cb:=⟨[Z2,Z2,Z2],[.bool],[false],λx=>RQ x⟩
theorem QWY:Bb prog 147 QPL:=DV QVA QXs (λ_=>RQ) (eO BS) func147
def gH:LT:={ live:=[],keep:=[(24,[2,3,4,5,22]),(35,[2,3,4,5,7,8])],rf:=[(36,[2,3,4,5,7,8],[4,5,7])] }
noncomputable def lW (mk:(α:Type)->Nat->α->List α):CO:={ tab:=tab,fs:=[(60,QGS),(145,QPK),(147,QPL),(182,QJL)],inl:=[(114,f114,QMq),(146,f146,QSa),(153,f153,QMp),(181,f181,QSZ)],rep:=mk }
noncomputable def nY (v:Y26):St:=⟨[(0,.yl 0),(1,.loc 10 []),(3,.row 11),(4,.row 12),sV 5 Z2 v.1,sV 30 Z5 v.2.1,sV 31 Z2 v.2.2.1,sV 32 Z2 v.2.2.2.1],[(0,.lp (.pair .any (.pair .any (.pair (.loc 1 []) (.pair (.loc 2 []) (.pair (.loc 3 []) (.pair (.loc 5 []) (.pair .any (.pair (.loc 6 []) (.pair (.loc 8 []) .unit))))))))) (qOf f108 10 gH .ready none)),(1,.var LX (.val ⟨LX,v.2.2.2.2.1⟩)),(2,.var Z5 (.val ⟨Z5,v.2.2.2.2.2.1⟩)),(3,.var Z5 (.row 4)),(4,.row Z2 v.2.2.2.2.2.2.1),(5,.var Z2 (.val ⟨Z2,v.2.2.2.2.2.2.2.1⟩)),(6,.var Z5 (.row 7)),(7,.row Z2 v.2.2.2.2.2.2.2.2.1),(8,.var yP (.row 9)),(9,.row .bool v.2.2.2.2.2.2.2.2.2.1),(10,.var LX (.val ⟨LX,v.2.2.2.2.2.2.2.2.2.2.1⟩)),(11,.row .bool v.2.2.2.2.2.2.2.2.2.2.2.1),(12,.row Z2 v.2.2.2.2.2.2.2.2.2.2.2.2)],[(0,[(0,.yl 0)]),(4096,[(4,.loc 3 []),(5,.loc 5 []),(7,.loc 6 [])])],33165312⟩
noncomputable def aP (v:Y31):St:=⟨[(0,.yl 0),(1,.loc 10 []),(3,.row 11),(4,.row 12)],[(0,.lp (.pair .any (.pair .any (.pair (.loc 1 []) (.pair (.loc 2 []) (.pair (.loc 3 []) (.pair (.loc 5 []) (.pair .any (.pair (.loc 6 []) (.pair (.loc 8 []) .unit))))))))) (qOf f108 10 gH .ready none)),(1,.var LX (.val ⟨LX,v.1⟩)),(2,.var Z5 (.val ⟨Z5,v.2.1⟩)),(3,.var Z5 (.row 4)),(4,.row Z2 v.2.2.1),(5,.var Z2 (.val ⟨Z2,v.2.2.2.1⟩)),(6,.var Z5 (.row 7)),(7,.row Z2 v.2.2.2.2.1),(8,.var yP (.row 9)),(9,.row .bool v.2.2.2.2.2.1),(10,.var LX (.val ⟨LX,v.2.2.2.2.2.2.1⟩)),(11,.row .bool v.2.2.2.2.2.2.2.1),(12,.row Z2 v.2.2.2.2.2.2.2.2)],[(0,[(0,.yl 0)]),(4096,[(4,.loc 3 []),(5,.loc 5 []),(7,.loc 6 [])])],33165312⟩
noncomputable def Vl (v:Y32):St:=⟨[sV 0 Z5 v.1,(1,.OH 145 .unit),sV 7 Z2 v.2.1,sV 8 Z2 v.2.2.1],[(0,.var LX (.val ⟨LX,v.2.2.2.1⟩)),(1,.var Z5 (.val ⟨Z5,v.2.2.2.2.1⟩)),(2,.var Z5 (.row 3)),(3,.row Z2 v.2.2.2.2.2.1),(4,.var Z2 (.val ⟨Z2,v.2.2.2.2.2.2.1⟩))],[(16879616,[]),(4096,[(2,.loc 0 []),(3,.loc 1 []),(4,.loc 2 []),(5,.loc 4 []),sV 22 .bool v.2.2.2.2.2.2.2])],69138939904⟩
def Gf (mk:(α:Type)->Nat->α->List α) (BM:Y32->Option Ol) (BQ:Y31->Option Ol) (Bp:Y26->Option Ol) (v:Y26):Option Ol:=
 bif decide (v.2.2.2.1 < v.2.2.1) then (BX v.2.1 v.2.2.2.1).bind λIh=>bif decide (0<=v.1)&&decide (v.1 < (v.2.2.2.2.2.2.2.2.1.length:Int)) then (nth v.2.2.2.2.2.2.2.2.1 (Int.toNat v.1)).bind λH7=>((BX v.2.2.2.2.2.1 v.1).bind λQn=>let Sg:Int:=IntKind.i64.wrap (H7+Qn);((RQ (Sg,Ih,(v.2.2.2.2.1.length:Int))).bind λVR=>bif !VR then some (([]:List Int),(36:Int)) else bif decide (0<=Ih)&&decide (Ih < (v.2.2.2.2.2.2.2.2.2.1.length:Int)) then (nth v.2.2.2.2.2.2.2.2.2.1 (Int.toNat Ih)).bind λVL=>bif VL then bif decide (0<=Ih)&&decide (Ih < (v.2.2.2.2.2.2.2.2.1.length:Int)) then (nth v.2.2.2.2.2.2.2.2.1 (Int.toNat Ih)).bind λVT=>bif VT != Sg then some (([]:List Int),(36:Int)) else bif decide (0<=Ih)&&decide (Ih < (v.2.2.2.2.2.2.2.2.2.1.length:Int)) then let x21:Y7:=List.set v.2.2.2.2.2.2.2.2.2.1 (Int.toNat Ih) true;bif decide (0<=Ih)&&decide (Ih < (v.2.2.2.2.2.2.2.2.1.length:Int)) then let Xd:Y2:=List.set v.2.2.2.2.2.2.2.2.1 (Int.toNat Ih) Sg;bif decide (0<=Ih)&&decide (Ih < (v.2.2.2.2.2.2.2.2.2.2.2.1.length:Int)) then (nth v.2.2.2.2.2.2.2.2.2.2.2.1 (Int.toNat Ih)).bind λx23=>bif !x23 then bif decide (0<=Ih)&&decide (Ih < (v.2.2.2.2.2.2.2.2.2.2.2.1.length:Int)) then let x24:Y7:=List.set v.2.2.2.2.2.2.2.2.2.2.2.1 (Int.toNat Ih) true;bif Nat.ble 1 1&&Nat.ble (List.length v.2.2.2.2.2.2.2.2.2.2.2.2+List.length ([Ih]:Y2)) lim then let x25:Y2:=List.append v.2.2.2.2.2.2.2.2.2.2.2.2 ([Ih]:Y2);let jT:Int:=IntKind.i64.wrap (v.2.2.2.1+1);Bp (v.1,v.2.1,v.2.2.1,jT,v.2.2.2.2.1,v.2.2.2.2.2.1,v.2.2.2.2.2.2.1,v.2.2.2.2.2.2.2.1,Xd,x21,v.2.2.2.2.2.2.2.2.2.2.1,x24,x25) else none else none else let x27:Int:=IntKind.i64.wrap (v.2.2.2.1+1);Bp (v.1,v.2.1,v.2.2.1,x27,v.2.2.2.2.1,v.2.2.2.2.2.1,v.2.2.2.2.2.2.1,v.2.2.2.2.2.2.2.1,Xd,x21,v.2.2.2.2.2.2.2.2.2.2.1,v.2.2.2.2.2.2.2.2.2.2.2.1,v.2.2.2.2.2.2.2.2.2.2.2.2) else none else none else none else none else bif decide (0<=Ih)&&decide (Ih < (v.2.2.2.2.2.2.2.2.2.1.length:Int)) then let x28:Y7:=List.set v.2.2.2.2.2.2.2.2.2.1 (Int.toNat Ih) true;bif decide (0<=Ih)&&decide (Ih < (v.2.2.2.2.2.2.2.2.1.length:Int)) then let x29:Y2:=List.set v.2.2.2.2.2.2.2.2.1 (Int.toNat Ih) Sg;bif decide (0<=Ih)&&decide (Ih < (v.2.2.2.2.2.2.2.2.2.2.2.1.length:Int)) then (nth v.2.2.2.2.2.2.2.2.2.2.2.1 (Int.toNat Ih)).bind λx30=>bif !x30 then bif decide (0<=Ih)&&decide (Ih < (v.2.2.2.2.2.2.2.2.2.2.2.1.length:Int)) then let x31:Y7:=List.set v.2.2.2.2.2.2.2.2.2.2.2.1 (Int.toNat Ih) true;bif Nat.ble 1 1&&Nat.ble (List.length v.2.2.2.2.2.2.2.2.2.2.2.2+List.length ([Ih]:Y2)) lim then let x32:Y2:=List.append v.2.2.2.2.2.2.2.2.2.2.2.2 ([Ih]:Y2);let x33:Int:=IntKind.i64.wrap (v.2.2.2.1+1);Bp (v.1,v.2.1,v.2.2.1,x33,v.2.2.2.2.1,v.2.2.2.2.2.1,v.2.2.2.2.2.2.1,v.2.2.2.2.2.2.2.1,x29,x28,v.2.2.2.2.2.2.2.2.2.2.1,x31,x32) else none else none else let x34:Int:=IntKind.i64.wrap (v.2.2.2.1+1);Bp (v.1,v.2.1,v.2.2.1,x34,v.2.2.2.2.1,v.2.2.2.2.2.1,v.2.2.2.2.2.2.1,v.2.2.2.2.2.2.2.1,x29,x28,v.2.2.2.2.2.2.2.2.2.2.1,v.2.2.2.2.2.2.2.2.2.2.2.1,v.2.2.2.2.2.2.2.2.2.2.2.2) else none else none else none else none)) else none else BQ (v.2.2.2.2.1,v.2.2.2.2.2.1,v.2.2.2.2.2.2.1,v.2.2.2.2.2.2.2.1,v.2.2.2.2.2.2.2.2.1,v.2.2.2.2.2.2.2.2.2.1,v.2.2.2.2.2.2.2.2.2.2.1,v.2.2.2.2.2.2.2.2.2.2.2.1,v.2.2.2.2.2.2.2.2.2.2.2.2)
def PY (mk:(α:Type)->Nat->α->List α) (N:Nat) (BM:Y32->Option Ol) (BQ:Y31->Option Ol) (Bp:Y26->Option Ol) (v:Y26):Option Ol:=Gf mk BM BQ Bp v
theorem QMy (mk:(α:Type)->Nat->α->List α) (N:Nat) (s0:St->Option Ol) (s1) (s2) (v):(Bc (lW mk) gH 6 N f108 [Z5,Z2] [true,false] [.rng 10 181] 1 (CS s1 BN)) s2 (nY v)=PY mk N (λv=>s0 (Vl v)) (λv=>s1 (aP v)) (λv=>s2 (nY v)) v:=by kernel_rfl
def Pm (mk:(α:Type)->Nat->α->List α) (QB:Y26->Option Ol) (BM:Y32->Option Ol) (BQ:Y31->Option Ol) (v:Y31):Option Ol:=
 bif decide ((v.2.2.2.2.2.2.2.2.length:Int) > 0) then let FJ:Int:=IntKind.i64.wrap ((v.2.2.2.2.2.2.2.2.length:Int) - 1);bif decide (0<=FJ)&&decide (FJ < (v.2.2.2.2.2.2.2.2.length:Int)) then (nth v.2.2.2.2.2.2.2.2 (Int.toNat FJ)).bind λFQ=>let Kw:Int:=IntKind.i64.wrap ((v.2.2.2.2.2.2.2.2.length:Int) - 1);bif decide (0<=Kw)&&decide (Kw<=((v.2.2.2.2.2.2.2.2.length):Int)) then (Md (v.2.2.2.2.2.2.1,FQ)).bind λNC=>QB (FQ,NC,(NC.length:Int),(0:Int),v.1,v.2.1,v.2.2.1,v.2.2.2.1,v.2.2.2.2.1,v.2.2.2.2.2.1,v.2.2.2.2.2.2.1,v.2.2.2.2.2.2.2.1,(List.take (Int.toNat Kw) v.2.2.2.2.2.2.2.2)) else none else none else some (v.2.2.2.2.1,(0:Int))
def I5 (mk:(α:Type)->Nat->α->List α) (N:Nat) (BM:Y32->Option Ol) (BQ:Y31->Option Ol) (v:Y31):Option Ol:=Pm mk (BP (PY mk N BM BQ) N) BM BQ v
theorem QMx (mk:(α:Type)->Nat->α->List α) (N:Nat) (s0:St->Option Ol) (s1) (v):(Bc (lW mk) gH 6 N f108 [Z5,Z2] [true,false] [.rng 10 181] 0 BN) s1 (aP v)=I5 mk N (λv=>s0 (Vl v)) (λv=>s1 (aP v)) v:=Eq.trans (b:=Pm mk (λv=>Bd (Bc (lW mk) gH 6 N f108 [Z5,Z2] [true,false] [.rng 10 181] 1 (CS s1 BN)) N (nY v)) (λv=>s0 (Vl v)) (λv=>s1 (aP v)) v) (by kernel_rfl) (by rw [funext (BR nY (QMy mk N s0 s1) N)];rfl)
def JK (mk:(α:Type)->Nat->α->List α) (Ca:Y31->Option Ol) (BM:Y32->Option Ol) (v:Y32):Option Ol:=
 bif decide (v.2.2.1 < v.2.1) then (BX v.1 v.2.2.1).bind λx2=>((Oz x2).bind λx3=>bif x3 then bif v.2.2.2.2.2.2.2 then some (([]:List Int),(2:Int)) else bif decide (v.2.2.1>=0) then some (([]:List Int),(2:Int)) else bif decide (0<=(v.2.2.2.1.length:Int))&&(decide ((v.2.2.2.1.length:Int)<=(v.2.2.2.1.length:Int))&&(decide ((v.2.2.2.1.length:Int)<=68719476736)&&true)) then let x4:Y2:=mk Int (Int.toNat (v.2.2.2.1.length:Int)) (0:Int);bif decide (0<=(v.2.2.2.1.length:Int))&&(decide ((v.2.2.2.1.length:Int)<=(v.2.2.2.1.length:Int))&&(decide ((v.2.2.2.1.length:Int)<=68719476736)&&true)) then let x5:Y7:=mk Bool (Int.toNat (v.2.2.2.1.length:Int)) false;bif decide (0<=(0:Int))&&decide ((0:Int) < (x5.length:Int)) then let x6:Y7:=List.set x5 (Int.toNat (0:Int)) true;bif decide (0<=(v.2.2.2.1.length:Int))&&(decide ((v.2.2.2.1.length:Int)<=(v.2.2.2.1.length:Int))&&(decide ((v.2.2.2.1.length:Int)<=68719476736)&&true)) then let x7:Y7:=mk Bool (Int.toNat (v.2.2.2.1.length:Int)) false;bif decide (0<=(0:Int))&&decide ((0:Int) < (x7.length:Int)) then let x8:Y7:=List.set x7 (Int.toNat (0:Int)) true;let x9:Y2:=([(0:Int)]:Y2);Ca (v.2.2.2.1,v.2.2.2.2.1,v.2.2.2.2.2.1,v.2.2.2.2.2.2.1,x4,x6,v.2.2.2.1,x8,x9) else none else none else none else none else none else let x35:Int:=IntKind.i64.wrap (v.2.2.1+1);BM (v.1,v.2.1,x35,v.2.2.2.1,v.2.2.2.2.1,v.2.2.2.2.2.1,v.2.2.2.2.2.2.1,v.2.2.2.2.2.2.2)) else bif v.2.2.2.2.2.2.2 then some (([]:List Int),(2:Int)) else bif decide (0<=(v.2.2.2.1.length:Int))&&(decide ((v.2.2.2.1.length:Int)<=(v.2.2.2.1.length:Int))&&(decide ((v.2.2.2.1.length:Int)<=68719476736)&&true)) then let x36:Y2:=mk Int (Int.toNat (v.2.2.2.1.length:Int)) (0:Int);bif decide (0<=(v.2.2.2.1.length:Int))&&(decide ((v.2.2.2.1.length:Int)<=(v.2.2.2.1.length:Int))&&(decide ((v.2.2.2.1.length:Int)<=68719476736)&&true)) then let x37:Y7:=mk Bool (Int.toNat (v.2.2.2.1.length:Int)) false;bif decide (0<=(0:Int))&&decide ((0:Int) < (x37.length:Int)) then let x38:Y7:=List.set x37 (Int.toNat (0:Int)) true;bif decide (0<=(v.2.2.2.1.length:Int))&&(decide ((v.2.2.2.1.length:Int)<=(v.2.2.2.1.length:Int))&&(decide ((v.2.2.2.1.length:Int)<=68719476736)&&true)) then let x39:Y7:=mk Bool (Int.toNat (v.2.2.2.1.length:Int)) false;bif decide (0<=(0:Int))&&decide ((0:Int) < (x39.length:Int)) then let x40:Y7:=List.set x39 (Int.toNat (0:Int)) true;let x41:Y2:=([(0:Int)]:Y2);Ca (v.2.2.2.1,v.2.2.2.2.1,v.2.2.2.2.2.1,v.2.2.2.2.2.2.1,x36,x38,v.2.2.2.1,x40,x41) else none else none else none else none else none
def Ld (mk:(α:Type)->Nat->α->List α) (N:Nat) (BM:Y32->Option Ol) (v:Y32):Option Ol:=JK mk (BP (I5 mk N BM) N) BM v
theorem QMw (mk:(α:Type)->Nat->α->List α) (N:Nat) (s0) (v):(Bc (lW mk) gH 6 N f108 [Z5,Z2] [true,false] [.call 4 7 114,.call 1 2 153] 0 BN) s0 (Vl v)=Ld mk N (λv=>s0 (Vl v)) v:=Eq.trans (b:=JK mk (λv=>Bd (Bc (lW mk) gH 6 N f108 [Z5,Z2] [true,false] [.rng 10 181] 0 BN) N (aP v)) (λv=>s0 (Vl v)) v) (by kernel_rfl) (by rw [funext (BR aP (QMx mk N s0) N)];rfl)
def Tx (mk:(α:Type)->Nat->α->List α) (BZ:Y32->Option Ol) (x:Y3×Y2):Option Ol:=
 (LZ x.1).bind λx1=>bif x1 != 0 then some (([]:List Int),x1) else bif (x.2.length:Int) != (x.1.length:Int) then some (([]:List Int),(2:Int)) else BZ (x.2,(x.2.length:Int),(0:Int),x.1,x.2,([]:List Int),(0:Int),false)
def YD (mk:(α:Type)->Nat->α->List α) (N:Nat) (x:Y3×Y2):Option Ol:=Tx mk (BP (Ld mk N) N) x
theorem QZX (mk:(α:Type)->Nat->α->List α) (N:Nat) (x:Y3×Y2):rise (lW mk) gH 6 N f108 [LX,Z5] [Z5,Z2] [true,false] x=YD mk N x:=Eq.trans (b:=Tx mk (λv=>Bd (Bc (lW mk) gH 6 N f108 [Z5,Z2] [true,false] [.call 4 7 114,.call 1 2 153] 0 BN) N (Vl v)) x) (by kernel_rfl) (by rw [funext (BR Vl (QMw mk N) N)];rfl)
def Xo (x:Y3×Y2):Option Ol:=YD (λ_=>List.replicate) big x
def QPM:Cb:=⟨[LX,Z5],[Z5,Z2],[true,false],λx=>Xo x⟩
theorem QWZ:Bb prog 108 QPM:=rzl (E:=lW (λ_=>List.replicate)) (YD (λ_=>List.replicate)) ⟨OD,(BO QJa (BO QWX (BO QWY (BO QMk BS)))),λ_ _ _=>rfl,mixed,(Cm (Cj func114 rfl rfl (by kernel_rfl)) (Cm (Cj func146 rfl rfl (by kernel_rfl)) (Cm (Cj func153 rfl rfl (by kernel_rfl)) (Cm (Cj func181 rfl rfl (by kernel_rfl)) Gv)))),Gy,Gx⟩ func108 (QZX (λ_=>List.replicate))
def QJj:LT:=lT [(4,[0,1,12,13])]
noncomputable def QII:=eN tab []
noncomputable def nZ (v:Y2×Y2×Int×Int):St:=⟨[sV 0 Z5 v.1,sV 1 Z5 v.2.1,sV 12 Z2 v.2.2.1,sV 13 Z2 v.2.2.2],[],[],4096⟩
def JR (BM:Y2×Y2×Int×Int->Option Bool) (v:Y2×Y2×Int×Int):Option Bool:=
 bif decide (v.2.2.2 < v.2.2.1) then (BX v.1 v.2.2.2).bind λx1=>((BX v.2.1 v.2.2.2).bind λx2=>bif x1 != x2 then some false else let x3:Int:=IntKind.i64.wrap (v.2.2.2+1);BM (v.1,v.2.1,v.2.2.1,x3)) else some true
def Cq (N:Nat) (BM:Y2×Y2×Int×Int->Option Bool) (v:Y2×Y2×Int×Int):Option Bool:=JR BM v
theorem QMz (N:Nat) (s0) (v):(Bc QII QJj 6 N f151 [.bool] [false] [] 0 BN) s0 (nZ v)=Cq N (λv=>s0 (nZ v)) v:=by kernel_rfl
def E9 (BZ:Y2×Y2×Int×Int->Option Bool) (x:Y2×Y2):Option Bool:=
 bif (x.1.length:Int) != (x.2.length:Int) then some false else BZ (x.1,x.2,(x.1.length:Int),(0:Int))
def Ez (x:Y2×Y2):Option Bool:=E9 (BP (Cq big) big) x
def QIv:Cb:=⟨[Z5,Z5],[.bool],[false],λx=>Ez x⟩
theorem QQG:Bb prog 151 QIv:=DV QII QJj (λN x=>E9 (BP (Cq N) N) x) (eO BS) func151 λN x=>Eq.trans (b:=E9 (λv=>Bd (Bc QII QJj 6 N f151 [.bool] [false] [] 0 BN) N (nZ v)) x) (by kernel_rfl) (by rw [funext (BR nZ (QMz N) N)] <;> rfl)
def QXt:LT:=lT []
noncomputable def QVB:=eN tab [(69,QRy),(106,QIt),(107,QIu),(151,QIv)]
def OZ (x:Y8×Sj×Y2):Option Y23:=
 (Jp (x.1,x.2.1)).bind λx1=>let x2:Int:=IntKind.i64.wrap ((x.2.2.length:Int) - (x1.length:Int));bif decide (x2 < 0) then some (([]:List Int),false) else bif decide (0<=x2)&&decide (x2<=(x.2.2.length:Int)) then let x3:Y2:=List.drop (Int.toNat x2) x.2.2;((Ez (x3,x1)).bind λx4=>bif !x4 then some (([]:List Int),false) else bif decide (0<=x2)&&decide (x2<=(x.2.2.length:Int)) then let x5:Y2:=List.take (Int.toNat x2) x.2.2;((Fy (x.1,x.2.1)).bind λx6=>let x7:Si:=([x5,x6]:Si);(EY x7).bind λx8=>some (x8,true)) else none) else none
def Jo (x:Y8×Sj×Y2):Option Y23:=OZ x
def QPN:Cb:=⟨[Z7,Z3,Z5],[Z5,.bool],[false,false],λx=>Jo x⟩
theorem QWa:Bb prog 149 QPN:=DV QVB QXt (λ_=>Jo) (eO (BO QXe (BO QQE (BO QQF (BO QQG BS))))) func149
def QXu:LT:=lT []
noncomputable def QVC:=eN tab [(60,QGS),(143,QRw),(182,QJL)]
def fB (x:Y3×Int):Option Ol:=
 (LZ x.1).bind λx1=>bif x1 != 0 then some (([]:List Int),x1) else (IB (x.2,(x.1.length:Int))).bind λx2=>bif !x2 then some (([]:List Int),(2:Int)) else (Md (x.1,x.2)).bind λx3=>some (x3,(0:Int))
def Xp (x:Y3×Int):Option Ol:=fB x
def QPO:Cb:=⟨[LX,Z2],[Z5,Z2],[false,false],λx=>Xp x⟩
theorem QWb:Bb prog 150 QPO:=DV QVC QXu (λ_=>Xp) (eO (BO QJa (BO QXc (BO QMk BS)))) func150
def QJk:LT:=lT [(5,[6,13,14,15])]
@[reducible] def vT (me:Y14->Y13->Option Wx):UO:=⟨[.hole Z2,.fix (.loc 0 []),.fix (.loc 1 []),.fix (.loc 3 [])],[.var Z7 (.hole Z7),.var (.slice (.nes Z2)) (.fix (.row 2)),.row (.nes Z2),.var .fn (.fix (.OH 148 (.pair (.loc 0 []) (.pair (.loc 1 []) (.pair (.loc 3 []) .unit)))))],2,[.bool],me⟩
noncomputable def QEj (me:Y14->Y13->Option Wx):CO:={ tab:=QAZ,fs:=[(149,QPN),(150,QPO),(151,QIv)],inl:=[],rcs:=[(148,vT me)] }
noncomputable def ng (v:Y46):St:=⟨[(2,.loc 0 []),(3,.loc 2 []),sV 6 Z5 v.1,sV 43 Z5 v.2.1,sV 44 Z2 v.2.2.1,sV 45 Z2 v.2.2.2.1],[(0,.var (.slice (.nes Z2)) (.row 1)),(1,.row (.nes Z2) v.2.2.2.2.1),(2,.var .fn (.OH 148 (.pair (.loc 3 []) (.pair (.loc 0 []) (.pair (.loc 2 []) .unit))))),(3,.var Z7 (.val ⟨Z7,v.2.2.2.2.2⟩))],[(0,[(0,.loc 3 []),(1,.loc 0 []),(2,.row 1),(3,.loc 2 [])])],4096⟩
def F7 (me:Y14->Y13->Option Wx) (y:Y13) (BM:Y46->Option Wx) (v:Y46):Option Wx:=
 bif decide (v.2.2.2.1 < v.2.2.1) then (BX v.2.1 v.2.2.2.1).bind λx5=>bif decide (0<=x5)&&decide (x5 < (v.2.2.2.2.1.length:Int)) then (nth v.2.2.2.2.1 (Int.toNat x5)).bind λx6=>bif List.isEmpty x6 then bif decide (0<=x5)&&decide (x5 < (v.2.2.2.2.1.length:Int)) then bif List.isEmpty v.1 then none else let x7:Si:=List.set v.2.2.2.2.1 (Int.toNat x5) v.1;bif Nat.ble 1 (x7.length)&&true then (me (x5,((),((),((),())))) (v.2.2.2.2.2,((),(x7,((),()))))).bind λx8=>bif !x8.2 then bif @R3 Z7 y.1 v.2.2.2.2.2 then some (x8.1,false) else none else bif decide (0<=x5)&&decide (x5 < (x8.1.length:Int)) then (nth x8.1 (Int.toNat x5)).bind λx9=>((Ez (x9,v.1)).bind λFJ=>bif !FJ then bif @R3 Z7 y.1 v.2.2.2.2.2 then some (x8.1,false) else none else let FQ:Int:=IntKind.i64.wrap (v.2.2.2.1+1);BM (v.1,v.2.1,v.2.2.1,FQ,x8.1,v.2.2.2.2.2)) else none else none else none else bif decide (0<=x5)&&decide (x5 < (v.2.2.2.2.1.length:Int)) then (nth v.2.2.2.2.1 (Int.toNat x5)).bind λKw=>((Ez (Kw,v.1)).bind λNC=>bif !NC then bif @R3 Z7 y.1 v.2.2.2.2.2 then some (v.2.2.2.2.1,false) else none else let Ih:Int:=IntKind.i64.wrap (v.2.2.2.1+1);BM (v.1,v.2.1,v.2.2.1,Ih,v.2.2.2.2.1,v.2.2.2.2.2)) else none else none else bif @R3 Z7 y.1 v.2.2.2.2.2 then some (v.2.2.2.2.1,true) else none
def Ch (me:Y14->Y13->Option Wx) (y:Y13) (N:Nat) (BM:Y46->Option Wx) (v:Y46):Option Wx:=F7 me y BM v
theorem QN0 (me:Y14->Y13->Option Wx) (y:Y13) (N:Nat) (s0) (v):(QR6 (QEj me) QF2 6 N f148 (vT me) y [] 0 BN) s0 (ng v)=Ch me y N (λv=>s0 (ng v)) v:=by kernel_rfl
def Ey (me:Y14->Y13->Option Wx) (y:Y13) (BZ:Y46->Option Wx) (x:Y14):Option Wx:=
 (BX y.1.2.1.2.2.2.2.1 x.1).bind λx1=>bif decide (0<=x.1)&&decide (x.1 < (y.2.2.1.length:Int)) then (nth y.2.2.1 (Int.toNat x.1)).bind λx2=>(Jo (y.1,x1,x2)).bind λx3=>bif !x3.2 then bif @R3 Z7 y.1 y.1 then some (y.2.2.1,x3.2) else none else bif (x3.1.length:Int)==0 then bif @R3 Z7 y.1 y.1 then some (y.2.2.1,x3.2) else none else (Xp (y.1.2.1.2.2.2.2.1,x.1)).bind λx4=>BZ (x3.1,x4.1,(x4.1.length:Int),(0:Int),y.2.2.1,y.1) else none
def NG (me:Y14->Y13->Option Wx) (y:Y13) (N:Nat) (x:Y14):Option Wx:=Ey me y (BP (Ch me y N) N) x
theorem QZY (me:Y14->Y13->Option Wx) (y:Y13) (N:Nat) (x:Y14):QLg (QEj me) QF2 6 N f148 (vT me) x y=NG me y N x:=Eq.trans (b:=Ey me y (λv=>Bd (QR6 (QEj me) QF2 6 N f148 (vT me) y [] 0 BN) N (ng v)) x) (by kernel_rfl) (by rw [funext (BR ng (QN0 me y N) N)];rfl)
def CF:Nat->Y14->Y13->Option Wx
 | 0,_,_=>none
 | k+1,x,y=>NG (CF k) y big x
def Gs (x:Y14) (y:Y13):Option Wx:=CF big x y
@[reducible] def QPG:UO:=vT Gs
theorem QQi:∀ k,gF prog 148 (vT (CF k))
 | 0=>QLe func148 rfl (by decide)
 | k+1=>by
  have ih:=QQi k
  exact QU0 (E:=QEj (CF k)) ⟨yD,(BO QWa (BO QWb (BO QQG BS))),λ_ _ _=>rfl,mixed,Gv,QFw ih Gy,Gx⟩ func148 rfl (by decide) (by kernel_rfl) (by kernel_rfl) (by kernel_rfl) (λx y r h=>⟨QF2,6,big,(QZY (CF k) y big x).trans h⟩)
theorem QWc:gF prog 148 QPG:=QQi big
noncomputable def QEk (mk:(α:Type)->Nat->α->List α):CO:={ tab:=QAZ,fs:=[],inl:=[],rep:=mk,rcs:=[(148,QPG)] }
noncomputable def ni (v:Y62):St:=⟨[(6,.loc 0 []),sV 13 Z5 v.1,sV 14 Z2 v.2.1,sV 15 Z2 v.2.2.1],[(0,.var .fn (.OH 148 (.pair (.loc 1 []) (.pair (.loc 2 []) (.pair (.loc 0 []) .unit))))),(1,.var Z7 (.val ⟨Z7,v.2.2.2.1⟩)),(2,.var (.slice (.nes Z2)) (.row 3)),(3,.row (.nes Z2) v.2.2.2.2)],[],4096⟩
def Gu (mk:(α:Type)->Nat->α->List α) (BM:Y62->Option Bool) (v:Y62):Option Bool:=
 bif decide (v.2.2.1 < v.2.1) then (BX v.1 v.2.2.1).bind λx2=>bif x2==0 then bif Nat.ble 1 (v.2.2.2.2.length)&&true then (Gs (v.2.2.1,((),((),((),())))) (v.2.2.2.1,((),(v.2.2.2.2,((),()))))).bind λx3=>bif !x3.2 then some false else let x4:Int:=IntKind.i64.wrap (v.2.2.1+1);BM (v.1,v.2.1,x4,v.2.2.2.1,x3.1) else none else let x5:Int:=IntKind.i64.wrap (v.2.2.1+1);BM (v.1,v.2.1,x5,v.2.2.2.1,v.2.2.2.2) else some true
def Cw (mk:(α:Type)->Nat->α->List α) (N:Nat) (BM:Y62->Option Bool) (v:Y62):Option Bool:=Gu mk BM v
theorem QN1 (mk:(α:Type)->Nat->α->List α) (N:Nat) (s0) (v):(Bc (QEk mk) QJk 6 N f109 [.bool] [false] [] 0 BN) s0 (ni v)=Cw mk N (λv=>s0 (ni v)) v:=by kernel_rfl
def FY (mk:(α:Type)->Nat->α->List α) (BZ:Y62->Option Bool) (x:Y8×Y2):Option Bool:=
 bif decide (0<=(x.2.length:Int))&&(decide ((x.2.length:Int)<=(x.2.length:Int))&&(decide ((x.2.length:Int)<=68719476736)&&true)) then let x1:Si:=mk Y2 (Int.toNat (x.2.length:Int)) ([]:Y2);BZ (x.2,(x.2.length:Int),(0:Int),x.1,x1) else none
def JX (mk:(α:Type)->Nat->α->List α) (N:Nat) (x:Y8×Y2):Option Bool:=FY mk (BP (Cw mk N) N) x
theorem QZZ (mk:(α:Type)->Nat->α->List α) (N:Nat) (x:Y8×Y2):rise (QEk mk) QJk 6 N f109 [Z7,Z5] [.bool] [false] x=JX mk N x:=Eq.trans (b:=FY mk (λv=>Bd (Bc (QEk mk) QJk 6 N f109 [.bool] [false] [] 0 BN) N (ni v)) x) (by kernel_rfl) (by rw [funext (BR ni (QN1 mk N) N)];rfl)
def Iu (x:Y8×Y2):Option Bool:=JX (λ_=>List.replicate) big x
def QPP:Cb:=⟨[Z7,Z5],[.bool],[false],λx=>Iu x⟩
theorem QWd:Bb prog 109 QPP:=rzl (E:=QEk (λ_=>List.replicate)) (JX (λ_=>List.replicate)) ⟨yD,BS,λ_ _ _=>rfl,mixed,Gv,(QFw QWc Gy),Gx⟩ func109 (QZZ (λ_=>List.replicate))
def QJl:LT:=lT [(3,[1,2,6,18,19,20])]
noncomputable def QEl (mk:(α:Type)->Nat->α->List α):CO:={ tab:=tab,fs:=[(105,QPJ),(106,QIt),(107,QIu),(108,QPM),(109,QPP)],inl:=[],rep:=mk }
noncomputable def nk (v:Y49):St:=⟨[sV 1 Z5 v.1,(2,.loc 0 []),(6,.row 1),sV 18 LX v.2.1,sV 19 Z2 v.2.2.1,sV 20 Z2 v.2.2.2.1],[(0,.var Z7 (.val ⟨Z7,v.2.2.2.2.1⟩)),(1,.row Z2 v.2.2.2.2.2)],[],4096⟩
def Kv (mk:(α:Type)->Nat->α->List α) (BM:Y49->Option Y23) (v:Y49):Option Y23:=
 bif decide (v.2.2.2.1 < v.2.2.1) then (BX v.2.1 v.2.2.2.1).bind λx2=>(Fy (v.2.2.2.2.1,x2)).bind λx3=>(TW (v.1,x3)).bind λx4=>(Jp (v.2.2.2.2.1,x2)).bind λx5=>((TW (v.1,x5)).bind λx6=>let x7:Int:=IntKind.i64.wrap (x4 - x6);bif decide (0<=v.2.2.2.1)&&decide (v.2.2.2.1 < (v.2.2.2.2.2.length:Int)) then let x8:Y2:=List.set v.2.2.2.2.2 (Int.toNat v.2.2.2.1) x7;let x9:Int:=IntKind.i64.wrap (v.2.2.2.1+1);BM (v.1,v.2.1,v.2.2.1,x9,v.2.2.2.2.1,x8) else none) else (Xo (v.2.2.2.2.1.2.1.2.2.2.2.1,v.2.2.2.2.2)).bind λFJ=>bif FJ.2==0 then (Iu (v.2.2.2.2.1,FJ.1)).bind λFQ=>some (FJ.1,FQ) else some (FJ.1,false)
def Dx (mk:(α:Type)->Nat->α->List α) (N:Nat) (BM:Y49->Option Y23) (v:Y49):Option Y23:=Kv mk BM v
theorem QN2 (mk:(α:Type)->Nat->α->List α) (N:Nat) (s0) (v):(Bc (QEl mk) QJl 6 N f62 [Z5,.bool] [true,false] [] 0 BN) s0 (nk v)=Dx mk N (λv=>s0 (nk v)) v:=by kernel_rfl
def Ip (mk:(α:Type)->Nat->α->List α) (BZ:Y49->Option Y23) (x:Y8×Y2):Option Y23:=
 bif decide (0<=(x.1.2.1.2.2.2.2.1.length:Int))&&(decide ((x.1.2.1.2.2.2.2.1.length:Int)<=(x.1.2.1.2.2.2.2.1.length:Int))&&(decide ((x.1.2.1.2.2.2.2.1.length:Int)<=68719476736)&&true)) then let x1:Y2:=mk Int (Int.toNat (x.1.2.1.2.2.2.2.1.length:Int)) (0:Int);BZ (x.2,x.1.2.1.2.2.2.2.1,(x.1.2.1.2.2.2.2.1.length:Int),(0:Int),x.1,x1) else none
def NQ (mk:(α:Type)->Nat->α->List α) (N:Nat) (x:Y8×Y2):Option Y23:=Ip mk (BP (Dx mk N) N) x
theorem QZa (mk:(α:Type)->Nat->α->List α) (N:Nat) (x:Y8×Y2):rise (QEl mk) QJl 6 N f62 [Z7,Z5] [Z5,.bool] [true,false] x=NQ mk N x:=Eq.trans (b:=Ip mk (λv=>Bd (Bc (QEl mk) QJl 6 N f62 [Z5,.bool] [true,false] [] 0 BN) N (nk v)) x) (by kernel_rfl) (by rw [funext (BR nk (QN2 mk N) N)];rfl)
def Fx (x:Y8×Y2):Option Y23:=NQ (λ_=>List.replicate) big x
def QPQ:Cb:=⟨[Z7,Z5],[Z5,.bool],[true,false],λx=>Fx x⟩
theorem QWe:Bb prog 62 QPQ:=rzl (E:=QEl (λ_=>List.replicate)) (NQ (λ_=>List.replicate)) (eO (BO QWW (BO QQE (BO QQF (BO QWZ (BO QWd BS)))))) func62 (QZa (λ_=>List.replicate))
def QJm:LT:=lK [] [(7,[])]
noncomputable def QIJ:CO:={ tab:=tab,fs:=[],inl:=[(114,f114,QMq),(152,f152,QXv),(153,f153,QMp)] }
noncomputable def nu (v:Y76):St:=⟨[sV 0 Z5 v.1,(1,(.OH 152 (.pair (.loc 0 []) .unit))),sV 7 Z2 v.2.1,sV 8 Z2 v.2.2.1],[(0,.var Z2 (.val ⟨Z2,v.2.2.2⟩))],[(16809984,[]),(4096,[])],68853727232⟩
def Kk (BM:Y76->Option Bool) (v:Y76):Option Bool:=
 bif decide (v.2.2.1 < v.2.1) then (BX v.1 v.2.2.1).bind λx1=>bif decide (x1>=v.2.2.2) then some (!(decide (v.2.2.1>=0))) else let x2:Int:=IntKind.i64.wrap (v.2.2.1+1);BM (v.1,v.2.1,x2,v.2.2.2) else some (!(decide ((-1:Int)>=0)))
def Nk (N:Nat) (BM:Y76->Option Bool) (v:Y76):Option Bool:=Kk BM v
theorem QN3 (N:Nat) (s0) (v):(Bc QIJ QJm 6 N f110 [.bool] [false] [.call 1 2 114,.call 1 2 153] 0 BN) s0 (nu v)=Nk N (λv=>s0 (nu v)) v:=by kernel_rfl
def SA (BZ:Y76->Option Bool) (x:Y2×Int):Option Bool:=
 BZ (x.1,(x.1.length:Int),(0:Int),x.2)
def VZ (x:Y2×Int):Option Bool:=SA (BP (Nk big) big) x
def QPR:Cb:=⟨[Z5,Z2],[.bool],[false],λx=>VZ x⟩
theorem QWf:Bb prog 110 QPR:=DV QIJ QJm (λN x=>SA (BP (Nk N) N) x) ⟨OD,BS,λ_ _ _=>rfl,mixed,(Cm (Cj func114 rfl rfl (by kernel_rfl)) (Cm (Cj func152 rfl rfl (by kernel_rfl)) (Cm (Cj func153 rfl rfl (by kernel_rfl)) Gv))),Gy,Gx⟩ func110 λN x=>Eq.trans (b:=SA (λv=>Bd (Bc QIJ QJm 6 N f110 [.bool] [false] [.call 1 2 114,.call 1 2 153] 0 BN) N (nu v)) x) (by kernel_rfl) (by rw [funext (BR nu (QN3 N) N)] <;> rfl)
def QJn:LT:=lT [(3,[3,6,7,8])]
noncomputable def QIK:=eN tab []
noncomputable def ny (v:Int×Y2×Int×Int):St:=⟨[sV 3 ZF v.1,sV 6 Z5 v.2.1,sV 7 Z2 v.2.2.1,sV 8 Z2 v.2.2.2],[],[],4096⟩
def L6 (BM:Int×Y2×Int×Int->Option Int) (v:Int×Y2×Int×Int):Option Int:=
 bif decide (v.2.2.2 < v.2.2.1) then (BX v.2.1 v.2.2.2).bind λx1=>bif decide (x1 < 0) then none else let x2:Int:=IntKind.u64.wrap ((1:Int) * 2 ^ (min (Int.toNat x1) 64));let x3:Int:=IntKind.i64.wrap (v.2.2.2+1);BM ((bits .or .u64 v.1 x2),v.2.1,v.2.2.1,x3) else some v.1
def Lf (N:Nat) (BM:Int×Y2×Int×Int->Option Int) (v:Int×Y2×Int×Int):Option Int:=L6 BM v
theorem QN4 (N:Nat) (s0) (v):(Bc QIK QJn 6 N f111 [ZF] [false] [] 0 BN) s0 (ny v)=Lf N (λv=>s0 (ny v)) v:=by kernel_rfl
def QI (BZ:Int×Y2×Int×Int->Option Int) (x:Y2):Option Int:=
 BZ ((0:Int),x,(x.length:Int),(0:Int))
def Xq (x:Y2):Option Int:=QI (BP (Lf big) big) x
def QPS:Cb:=⟨[Z5],[ZF],[false],λx=>Xq x⟩
theorem QWg:Bb prog 111 QPS:=DV QIK QJn (λN x=>QI (BP (Lf N) N) x) (eO BS) func111 λN x=>Eq.trans (b:=QI (λv=>Bd (Bc QIK QJn 6 N f111 [ZF] [false] [] 0 BN) N (ny v)) x) (by kernel_rfl) (by rw [funext (BR ny (QN4 N) N)] <;> rfl)
def QXw:LT:=lT []
noncomputable def QVD:=eN tab []
def RG (x:Int):Option Int:=
 bif decide (x < 0) then none else let x1:Int:=IntKind.u64.wrap ((1:Int) * 2 ^ (min (Int.toNat x) 64));let x2:Int:=IntKind.u64.wrap (x1 - 1);some x2
def Iw (x:Int):Option Int:=RG x
def QPT:Cb:=⟨[Z2],[ZF],[false],λx=>Iw x⟩
theorem QWh:Bb prog 113 QPT:=DV QVD QXw (λ_=>Iw) (eO BS) func113
def ZH:LT:={ live:=[(3,[0,2,3,5,9,20,21,22]),(10,[0,5,9,12])],keep:=[(38,[0,5,9,12])],rf:=[(39,[5,9,12],[0,5,9,12])] }
noncomputable def cZ (mk:(α:Type)->Nat->α->List α):CO:={ tab:=tab,fs:=[(144,QRx),(182,QJL)],inl:=[(146,f146,QSa),(181,f181,QSZ)],rep:=mk }
noncomputable def oC (v:Y28):St:=⟨[(0,.yl 0),(1,.loc 5 []),(3,.row 6),(4,.row 7),sV 5 Z2 v.1,sV 30 Z5 v.2.1,sV 31 Z2 v.2.2.1,sV 32 Z2 v.2.2.2.1],[(0,.lp (.pair .any (.pair .any (.pair .any (.pair .any (.pair .any (.pair (.loc 1 []) (.pair .any (.pair .any (.pair .any (.pair (.loc 2 []) (.pair .any (.pair .any (.pair (.loc 4 []) .unit))))))))))))) (qOf f112 13 ZH .ready none)),(1,.var Z9 (.val ⟨Z9,v.2.2.2.2.1⟩)),(2,.var Z9 (.row 3)),(3,.row ZF v.2.2.2.2.2.1),(4,.var .bool (.val ⟨.bool,v.2.2.2.2.2.2.1⟩)),(5,.var LX (.val ⟨LX,v.2.2.2.2.2.2.2.1⟩)),(6,.row .bool v.2.2.2.2.2.2.2.2.1),(7,.row Z2 v.2.2.2.2.2.2.2.2.2.1)],[(0,[(0,.yl 0)]),(4096,[sV 0 LX v.2.2.2.2.2.2.2.2.2.2,(5,.loc 1 []),(9,.loc 2 []),(12,.loc 4 [])])],33165312⟩
noncomputable def aQ (v:Y42):St:=⟨[(0,.yl 0),(1,.loc 5 []),(3,.row 6),(4,.row 7)],[(0,.lp (.pair .any (.pair .any (.pair .any (.pair .any (.pair .any (.pair (.loc 1 []) (.pair .any (.pair .any (.pair .any (.pair (.loc 2 []) (.pair .any (.pair .any (.pair (.loc 4 []) .unit))))))))))))) (qOf f112 13 ZH .ready none)),(1,.var Z9 (.val ⟨Z9,v.1⟩)),(2,.var Z9 (.row 3)),(3,.row ZF v.2.1),(4,.var .bool (.val ⟨.bool,v.2.2.1⟩)),(5,.var LX (.val ⟨LX,v.2.2.2.1⟩)),(6,.row .bool v.2.2.2.2.1),(7,.row Z2 v.2.2.2.2.2.1)],[(0,[(0,.yl 0)]),(4096,[sV 0 LX v.2.2.2.2.2.2,(5,.loc 1 []),(9,.loc 2 []),(12,.loc 4 [])])],33165312⟩
noncomputable def Vn (v:Y80):St:=⟨[sV 0 LX v.1,(5,.loc 0 []),(9,.loc 1 []),(12,.loc 3 [])],[(0,.var Z9 (.val ⟨Z9,v.2.1⟩)),(1,.var Z9 (.row 2)),(2,.row ZF v.2.2.1),(3,.var .bool (.val ⟨.bool,v.2.2.2⟩))],[],4096⟩
noncomputable def Rf (v:Y34):St:=⟨[sV 0 LX v.1,sV 2 ZF v.2.1,sV 3 ZF v.2.2.1,(5,.loc 0 []),(9,.loc 1 []),(20,.row 3),sV 21 Z2 v.2.2.2.1,sV 22 Z2 v.2.2.2.2.1],[(0,.var Z9 (.val ⟨Z9,v.2.2.2.2.2.1⟩)),(1,.var Z9 (.row 2)),(2,.row ZF v.2.2.2.2.2.2.1),(3,.row .bool v.2.2.2.2.2.2.2)],[],4096⟩
def JL (mk:(α:Type)->Nat->α->List α) (BM:Y34->Option Y2) (BQ:Y80->Option Y2) (Bp:Y42->Option Y2) (Qj:Y28->Option Y2) (v:Y28):Option Y2:=
 bif decide (v.2.2.2.1 < v.2.2.1) then (BX v.2.1 v.2.2.2.1).bind λH7=>bif decide (0<=v.1)&&decide (v.1 < (v.2.2.2.2.2.1.length:Int)) then (nth v.2.2.2.2.2.1 (Int.toNat v.1)).bind λQn=>((BX v.2.2.2.2.1 v.1).bind λSg=>bif v.2.2.2.2.2.2.1 then bif decide (0<=H7)&&decide (H7 < (v.2.2.2.2.2.1.length:Int)) then (nth v.2.2.2.2.2.1 (Int.toNat H7)).bind λVR=>let VL:Int:=bits .and .u64 VR (bits .or .u64 Qn Sg);bif decide (0<=H7)&&decide (H7 < (v.2.2.2.2.2.1.length:Int)) then let VT:Y2:=List.set v.2.2.2.2.2.1 (Int.toNat H7) VL;bif decide (0<=H7)&&decide (H7 < (v.2.2.2.2.2.2.2.2.1.length:Int)) then (nth v.2.2.2.2.2.2.2.2.1 (Int.toNat H7)).bind λx21=>bif !x21 then bif decide (0<=H7)&&decide (H7 < (v.2.2.2.2.2.2.2.2.1.length:Int)) then let Xd:Y7:=List.set v.2.2.2.2.2.2.2.2.1 (Int.toNat H7) true;bif Nat.ble 1 1&&Nat.ble (List.length v.2.2.2.2.2.2.2.2.2.1+List.length ([H7]:Y2)) lim then let x23:Y2:=List.append v.2.2.2.2.2.2.2.2.2.1 ([H7]:Y2);let x24:Int:=IntKind.i64.wrap (v.2.2.2.1+1);Qj (v.1,v.2.1,v.2.2.1,x24,v.2.2.2.2.1,VT,true,v.2.2.2.2.2.2.2.1,Xd,x23,v.2.2.2.2.2.2.2.2.2.2) else none else none else let x25:Int:=IntKind.i64.wrap (v.2.2.2.1+1);Qj (v.1,v.2.1,v.2.2.1,x25,v.2.2.2.2.1,VT,true,v.2.2.2.2.2.2.2.1,v.2.2.2.2.2.2.2.2.1,v.2.2.2.2.2.2.2.2.2.1,v.2.2.2.2.2.2.2.2.2.2) else none else none else none else bif decide (0<=H7)&&decide (H7 < (v.2.2.2.2.2.1.length:Int)) then (nth v.2.2.2.2.2.1 (Int.toNat H7)).bind λjT=>let x27:Int:=bits .andNot .u64 jT (bits .or .u64 Qn Sg);bif decide (0<=H7)&&decide (H7 < (v.2.2.2.2.2.1.length:Int)) then (nth v.2.2.2.2.2.1 (Int.toNat H7)).bind λx28=>let x29:Int:=bits .and .u64 x28 (bits .or .u64 Qn Sg);bif decide (0<=H7)&&decide (H7 < (v.2.2.2.2.2.1.length:Int)) then let x30:Y2:=List.set v.2.2.2.2.2.1 (Int.toNat H7) x29;bif decide (0<=H7)&&decide (H7 < (v.2.2.2.2.2.2.2.2.1.length:Int)) then (nth v.2.2.2.2.2.2.2.2.1 (Int.toNat H7)).bind λx31=>bif !x31 then bif decide (0<=H7)&&decide (H7 < (v.2.2.2.2.2.2.2.2.1.length:Int)) then let x32:Y7:=List.set v.2.2.2.2.2.2.2.2.1 (Int.toNat H7) true;bif Nat.ble 1 1&&Nat.ble (List.length v.2.2.2.2.2.2.2.2.2.1+List.length ([H7]:Y2)) lim then let x33:Y2:=List.append v.2.2.2.2.2.2.2.2.2.1 ([H7]:Y2);let x34:Int:=IntKind.i64.wrap (v.2.2.2.1+1);Qj (v.1,v.2.1,v.2.2.1,x34,v.2.2.2.2.1,x30,(x27 != 0),v.2.2.2.2.2.2.2.1,x32,x33,v.2.2.2.2.2.2.2.2.2.2) else none else none else let x35:Int:=IntKind.i64.wrap (v.2.2.2.1+1);Qj (v.1,v.2.1,v.2.2.1,x35,v.2.2.2.2.1,x30,(x27 != 0),v.2.2.2.2.2.2.2.1,v.2.2.2.2.2.2.2.2.1,v.2.2.2.2.2.2.2.2.2.1,v.2.2.2.2.2.2.2.2.2.2) else none else none else none else none) else none else Bp (v.2.2.2.2.1,v.2.2.2.2.2.1,v.2.2.2.2.2.2.1,v.2.2.2.2.2.2.2.1,v.2.2.2.2.2.2.2.2.1,v.2.2.2.2.2.2.2.2.2.1,v.2.2.2.2.2.2.2.2.2.2)
def I6 (mk:(α:Type)->Nat->α->List α) (N:Nat) (BM:Y34->Option Y2) (BQ:Y80->Option Y2) (Bp:Y42->Option Y2) (Qj:Y28->Option Y2) (v:Y28):Option Y2:=JL mk BM BQ Bp Qj v
theorem QN8 (mk:(α:Type)->Nat->α->List α) (N:Nat) (s0:St->Option Y2) (s1) (s2) (s3) (v):(Bc (cZ mk) ZH 6 N f112 [Z9] [true] [.rng 13 181] 1 (CS s1 (CS s2 BN))) s3 (oC v)=I6 mk N (λv=>s0 (Rf v)) (λv=>s1 (Vn v)) (λv=>s2 (aQ v)) (λv=>s3 (oC v)) v:=by kernel_rfl
def Mx (mk:(α:Type)->Nat->α->List α) (sP:Y28->Option Y2) (BM:Y34->Option Y2) (BQ:Y80->Option Y2) (Bp:Y42->Option Y2) (v:Y42):Option Y2:=
 bif decide ((v.2.2.2.2.2.1.length:Int) > 0) then let FQ:Int:=IntKind.i64.wrap ((v.2.2.2.2.2.1.length:Int) - 1);bif decide (0<=FQ)&&decide (FQ < (v.2.2.2.2.2.1.length:Int)) then (nth v.2.2.2.2.2.1 (Int.toNat FQ)).bind λKw=>let NC:Int:=IntKind.i64.wrap ((v.2.2.2.2.2.1.length:Int) - 1);bif decide (0<=NC)&&decide (NC<=((v.2.2.2.2.2.1.length):Int)) then (Md (v.2.2.2.1,Kw)).bind λIh=>sP (Kw,Ih,(Ih.length:Int),(0:Int),v.1,v.2.1,v.2.2.1,v.2.2.2.1,v.2.2.2.2.1,(List.take (Int.toNat NC) v.2.2.2.2.2.1),v.2.2.2.2.2.2) else none else none else BQ (v.2.2.2.2.2.2,v.1,v.2.1,v.2.2.1)
def Mr (mk:(α:Type)->Nat->α->List α) (N:Nat) (BM:Y34->Option Y2) (BQ:Y80->Option Y2) (Bp:Y42->Option Y2) (v:Y42):Option Y2:=Mx mk (BP (I6 mk N BM BQ Bp) N) BM BQ Bp v
theorem QN7 (mk:(α:Type)->Nat->α->List α) (N:Nat) (s0:St->Option Y2) (s1) (s2) (v):(Bc (cZ mk) ZH 6 N f112 [Z9] [true] [.rng 13 181] 0 (CS s1 BN)) s2 (aQ v)=Mr mk N (λv=>s0 (Rf v)) (λv=>s1 (Vn v)) (λv=>s2 (aQ v)) v:=Eq.trans (b:=Mx mk (λv=>Bd (Bc (cZ mk) ZH 6 N f112 [Z9] [true] [.rng 13 181] 1 (CS s1 (CS s2 BN))) N (oC v)) (λv=>s0 (Rf v)) (λv=>s1 (Vn v)) (λv=>s2 (aQ v)) v) (by kernel_rfl) (by rw [funext (BR oC (QN8 mk N s0 s1 s2) N)];rfl)
def Mw (mk:(α:Type)->Nat->α->List α) (QB:Y42->Option Y2) (BM:Y34->Option Y2) (BQ:Y80->Option Y2) (v:Y80):Option Y2:=
 bif v.2.2.2 then bif decide (0<=(v.1.length:Int))&&(decide ((v.1.length:Int)<=(v.1.length:Int))&&(decide ((v.1.length:Int)<=68719476736)&&true)) then let x8:Y7:=mk Bool (Int.toNat (v.1.length:Int)) false;bif decide (0<=(0:Int))&&decide ((0:Int) < (x8.length:Int)) then let x9:Y7:=List.set x8 (Int.toNat (0:Int)) true;let FJ:Y2:=([(0:Int)]:Y2);QB (v.2.1,v.2.2.1,false,v.1,x9,FJ,v.1) else none else none else some v.2.2.1
def Mq (mk:(α:Type)->Nat->α->List α) (N:Nat) (BM:Y34->Option Y2) (BQ:Y80->Option Y2) (v:Y80):Option Y2:=Mw mk (BP (Mr mk N BM BQ) N) BM BQ v
theorem QN6 (mk:(α:Type)->Nat->α->List α) (N:Nat) (s0:St->Option Y2) (s1) (v):(Bc (cZ mk) ZH 6 N f112 [Z9] [true] [] 1 BN) s1 (Vn v)=Mq mk N (λv=>s0 (Rf v)) (λv=>s1 (Vn v)) v:=Eq.trans (b:=Mw mk (λv=>Bd (Bc (cZ mk) ZH 6 N f112 [Z9] [true] [.rng 13 181] 0 (CS s1 BN)) N (aQ v)) (λv=>s0 (Rf v)) (λv=>s1 (Vn v)) v) (by kernel_rfl) (by rw [funext (BR aQ (QN7 mk N s0 s1) N)];rfl)
def GK (mk:(α:Type)->Nat->α->List α) (Ca:Y80->Option Y2) (BM:Y34->Option Y2) (v:Y34):Option Y2:=
 bif decide (v.2.2.2.2.1 < v.2.2.2.1) then bif decide (0<=v.2.2.2.2.1)&&decide (v.2.2.2.2.1 < (v.2.2.2.2.2.2.2.length:Int)) then (nth v.2.2.2.2.2.2.2 (Int.toNat v.2.2.2.2.1)).bind λx3=>bif x3 then bif decide (0<=v.2.2.2.2.1)&&decide (v.2.2.2.2.1 < (v.2.2.2.2.2.2.1.length:Int)) then let x4:Y2:=List.set v.2.2.2.2.2.2.1 (Int.toNat v.2.2.2.2.1) v.2.2.1;let x5:Int:=IntKind.i64.wrap (v.2.2.2.2.1+1);BM (v.1,v.2.1,v.2.2.1,v.2.2.2.1,x5,v.2.2.2.2.2.1,x4,v.2.2.2.2.2.2.2) else none else let x6:Int:=IntKind.i64.wrap (v.2.2.2.2.1+1);BM (v.1,v.2.1,v.2.2.1,v.2.2.2.1,x6,v.2.2.2.2.2.1,v.2.2.2.2.2.2.1,v.2.2.2.2.2.2.2) else none else bif decide (0<=(0:Int))&&decide ((0:Int) < (v.2.2.2.2.2.2.1.length:Int)) then let x7:Y2:=List.set v.2.2.2.2.2.2.1 (Int.toNat (0:Int)) v.2.1;Ca (v.1,v.2.2.2.2.2.1,x7,true) else none
def Ml (mk:(α:Type)->Nat->α->List α) (N:Nat) (BM:Y34->Option Y2) (v:Y34):Option Y2:=GK mk (BP (Mq mk N BM) N) BM v
theorem QN5 (mk:(α:Type)->Nat->α->List α) (N:Nat) (s0) (v):(Bc (cZ mk) ZH 6 N f112 [Z9] [true] [] 0 BN) s0 (Rf v)=Ml mk N (λv=>s0 (Rf v)) v:=Eq.trans (b:=GK mk (λv=>Bd (Bc (cZ mk) ZH 6 N f112 [Z9] [true] [] 1 BN) N (Vn v)) (λv=>s0 (Rf v)) v) (by kernel_rfl) (by rw [funext (BR Vn (QN6 mk N s0) N)];rfl)
def QH (mk:(α:Type)->Nat->α->List α) (BZ:Y34->Option Y2) (x:Y3×Y2×Int×Int):Option Y2:=
 bif decide (0<=(x.1.length:Int))&&(decide ((x.1.length:Int)<=(x.1.length:Int))&&(decide ((x.1.length:Int)<=68719476736)&&true)) then let x1:Y2:=mk Int (Int.toNat (x.1.length:Int)) (0:Int);(aM x.1).bind λx2=>BZ (x.1,x.2.2.1,x.2.2.2,(x2.length:Int),(0:Int),x.2.1,x1,x2) else none
def Ux (mk:(α:Type)->Nat->α->List α) (N:Nat) (x:Y3×Y2×Int×Int):Option Y2:=QH mk (BP (Ml mk N) N) x
theorem QZb (mk:(α:Type)->Nat->α->List α) (N:Nat) (x:Y3×Y2×Int×Int):rise (cZ mk) ZH 6 N f112 [LX,Z9,ZF,ZF] [Z9] [true] x=Ux mk N x:=Eq.trans (b:=QH mk (λv=>Bd (Bc (cZ mk) ZH 6 N f112 [Z9] [true] [] 0 BN) N (Rf v)) x) (by kernel_rfl) (by rw [funext (BR Rf (QN5 mk N) N)];rfl)
def UY (x:Y3×Y2×Int×Int):Option Y2:=Ux (λ_=>List.replicate) big x
def QPU:Cb:=⟨[LX,Z9,ZF,ZF],[Z9],[true],λx=>UY x⟩
theorem QWi:Bb prog 112 QPU:=rzl (E:=cZ (λ_=>List.replicate)) (Ux (λ_=>List.replicate)) ⟨OD,(BO QXd (BO QMk BS)),λ_ _ _=>rfl,mixed,(Cm (Cj func146 rfl rfl (by kernel_rfl)) (Cm (Cj func181 rfl rfl (by kernel_rfl)) Gv)),Gy,Gx⟩ func112 (QZb (λ_=>List.replicate))
def QJo:LT:=lT [(8,[0,1,2,9,35,36,37])]
noncomputable def QEm (mk:(α:Type)->Nat->α->List α):CO:={ tab:=tab,fs:=[(36,QJM),(60,QGS),(110,QPR),(111,QPS),(112,QPU),(113,QPT)],inl:=[],rep:=mk }
noncomputable def oD (v:Y38):St:=⟨[sV 0 LX v.1,sV 1 Z2 v.2.1,sV 2 Z2 v.2.2.1,(9,.row 0),sV 35 LX v.2.2.2.1,sV 36 Z2 v.2.2.2.2.1,sV 37 Z2 v.2.2.2.2.2.1],[(0,.row ZF v.2.2.2.2.2.2)],[],4096⟩
def Ns (mk:(α:Type)->Nat->α->List α) (BM:Y38->Option Ol) (v:Y38):Option Ol:=
 bif decide (v.2.2.2.2.2.1 < v.2.2.2.2.1) then (BX v.2.2.2.1 v.2.2.2.2.2.1).bind λx3=>(OT x3).bind λx4=>((VZ (x4.1,v.2.2.1)).bind λx5=>bif !x5 then some (([]:List Int),(16:Int)) else (VZ (x4.2.1,v.2.2.1)).bind λx6=>bif !x6 then some (([]:List Int),(16:Int)) else (Xq x4.2.1).bind λx7=>bif decide (0<=v.2.2.2.2.2.1)&&decide (v.2.2.2.2.2.1 < (v.2.2.2.2.2.2.length:Int)) then let x8:Y2:=List.set v.2.2.2.2.2.2 (Int.toNat v.2.2.2.2.2.1) x7;let x9:Int:=IntKind.i64.wrap (v.2.2.2.2.2.1+1);BM (v.1,v.2.1,v.2.2.1,v.2.2.2.1,v.2.2.2.2.1,x9,x8) else none) else (Iw v.2.1).bind λFJ=>(Iw v.2.2.1).bind λFQ=>((UY (v.1,v.2.2.2.2.2.2,FJ,FQ)).bind λKw=>let NC:Int:=IntKind.i64.wrap ((v.1.length:Int) - 1);bif decide (0<=NC)&&decide (NC < (Kw.length:Int)) then let Ih:Y2:=List.set Kw (Int.toNat NC) (0:Int);some (Ih,(0:Int)) else none)
def Nj (mk:(α:Type)->Nat->α->List α) (N:Nat) (BM:Y38->Option Ol) (v:Y38):Option Ol:=Ns mk BM v
theorem QN9 (mk:(α:Type)->Nat->α->List α) (N:Nat) (s0) (v):(Bc (QEm mk) QJo 6 N f63 [Z9,Z2] [true,false] [] 0 BN) s0 (oD v)=Nj mk N (λv=>s0 (oD v)) v:=by kernel_rfl
def V3 (mk:(α:Type)->Nat->α->List α) (BZ:Y38->Option Ol) (x:Y89):Option Ol:=
 (LZ x.1).bind λx1=>bif x1 != 0 then some (([]:List Int),x1) else bif decide (x.2.1 < 0) then some (([]:List Int),(2:Int)) else bif decide (x.2.1 > x.2.2) then some (([]:List Int),(2:Int)) else bif decide (x.2.2 > 16) then some (([]:List Int),(2:Int)) else bif decide (0<=(x.1.length:Int))&&(decide ((x.1.length:Int)<=(x.1.length:Int))&&(decide ((x.1.length:Int)<=68719476736)&&true)) then let x2:Y2:=mk Int (Int.toNat (x.1.length:Int)) (0:Int);BZ (x.1,x.2.1,x.2.2,x.1,(x.1.length:Int),(0:Int),x2) else none
def Zd (mk:(α:Type)->Nat->α->List α) (N:Nat) (x:Y89):Option Ol:=V3 mk (BP (Nj mk N) N) x
theorem QZc (mk:(α:Type)->Nat->α->List α) (N:Nat) (x:Y89):rise (QEm mk) QJo 6 N f63 [LX,Z2,Z2] [Z9,Z2] [true,false] x=Zd mk N x:=Eq.trans (b:=V3 mk (λv=>Bd (Bc (QEm mk) QJo 6 N f63 [Z9,Z2] [true,false] [] 0 BN) N (oD v)) x) (by kernel_rfl) (by rw [funext (BR oD (QN9 mk N) N)];rfl)
def Og (x:Y89):Option Ol:=Zd (λ_=>List.replicate) big x
def QPV:Cb:=⟨[LX,Z2,Z2],[Z9,Z2],[true,false],λx=>Og x⟩
theorem QWj:Bb prog 63 QPV:=rzl (E:=QEm (λ_=>List.replicate)) (Zd (λ_=>List.replicate)) (eO (BO QMl (BO QJa (BO QWf (BO QWg (BO QWi (BO QWh BS))))))) func63 (QZc (λ_=>List.replicate))
def QB4:LT:=lK [(2,[3,10,11,12])] [(25,[3,5,10,11,12])]
noncomputable def QAm:CO:={ tab:=tab,fs:=[(36,QJM)],inl:=[(114,f114,QMq),(115,f115,QXx),(153,f153,QMp)] }
noncomputable def QFS (v:Y33):St:=⟨[(0,.row 0),(1,(.OH 115 (.pair (.loc 1 []) (.pair (.loc 2 []) .unit)))),sV 7 Z2 v.1,sV 8 Z2 v.2.1],[(0,.row Z2 v.2.2.1),(1,.var Z9 (.val ⟨Z9,v.2.2.2.1⟩)),(2,.var Z2 (.val ⟨Z2,v.2.2.2.2.1⟩))],[(16883712,[]),(4096,[(3,.loc 1 []),(5,.loc 2 []),sV 10 LX v.2.2.2.2.2.1,sV 11 Z2 v.2.2.2.2.2.2.1,sV 12 Z2 v.2.2.2.2.2.2.2])],69155717120⟩
noncomputable def aR (v:Y81):St:=⟨[(3,.loc 0 []),sV 10 LX v.1,sV 11 Z2 v.2.1,sV 12 Z2 v.2.2.1],[(0,.var Z9 (.val ⟨Z9,v.2.2.2⟩))],[],4096⟩
def Kt (BM:Y81->Option Int) (BQ:Y33->Option Int) (v:Y33):Option Int:=
 bif decide (v.2.1 < v.1) then bif decide (0<=v.2.1)&&decide (v.2.1 < (v.2.2.1.length:Int)) then (nth v.2.2.1 (Int.toNat v.2.1)).bind λx3=>((BX v.2.2.2.1 v.2.2.2.2.1).bind λx4=>bif decide (x3 < 0) then none else let x5:Int:=IntKind.u64.wrap ((1:Int) * 2 ^ (min (Int.toNat x3) 64));bif (bits .and .u64 x4 x5)==0 then bif decide (v.2.1>=0) then some v.2.2.2.2.1 else let x6:Int:=IntKind.i64.wrap (v.2.2.2.2.2.2.2+1);BM (v.2.2.2.2.2.1,v.2.2.2.2.2.2.1,x6,v.2.2.2.1) else let x7:Int:=IntKind.i64.wrap (v.2.1+1);BQ (v.1,x7,v.2.2.1,v.2.2.2.1,v.2.2.2.2.1,v.2.2.2.2.2.1,v.2.2.2.2.2.2.1,v.2.2.2.2.2.2.2)) else none else let x8:Int:=IntKind.i64.wrap (v.2.2.2.2.2.2.2+1);BM (v.2.2.2.2.2.1,v.2.2.2.2.2.2.1,x8,v.2.2.2.1)
def E5 (N:Nat) (BM:Y81->Option Int) (BQ:Y33->Option Int) (v:Y33):Option Int:=Kt BM BQ v
theorem QYu (N:Nat) (s0) (s1) (v):(Bc QAm QB4 6 N f64 [Z2] [false] [.call 5 2 114,.call 1 2 153] 0 (CS s0 BN)) s1 (QFS v)=E5 N (λv=>s0 (aR v)) (λv=>s1 (QFS v)) v:=by kernel_rfl
def Gp (Ca:Y33->Option Int) (BM:Y81->Option Int) (v:Y81):Option Int:=
 bif decide (v.2.2.1 < v.2.1) then (BX v.1 v.2.2.1).bind λx1=>(OT x1).bind λx2=>Ca ((x2.1.length:Int),(0:Int),x2.1,v.2.2.2,v.2.2.1,v.1,v.2.1,v.2.2.1) else some (-1:Int)
def Co (N:Nat) (BM:Y81->Option Int) (v:Y81):Option Int:=Gp (BP (E5 N BM) N) BM v
theorem QNA (N:Nat) (s0) (v):(Bc QAm QB4 6 N f64 [Z2] [false] [] 0 BN) s0 (aR v)=Co N (λv=>s0 (aR v)) v:=Eq.trans (b:=Gp (λv=>Bd (Bc QAm QB4 6 N f64 [Z2] [false] [.call 5 2 114,.call 1 2 153] 0 (CS s0 BN)) N (QFS v)) (λv=>s0 (aR v)) v) (by kernel_rfl) (by rw [funext (BR QFS (QYu N s0) N)];rfl)
def F3 (BZ:Y81->Option Int) (x:Y3×Y2):Option Int:=
 BZ (x.1,(x.1.length:Int),(0:Int),x.2)
def Fw (x:Y3×Y2):Option Int:=F3 (BP (Co big) big) x
def QPW:Cb:=⟨[LX,Z9],[Z2],[false],λx=>Fw x⟩
theorem QWk:Bb prog 64 QPW:=DV QAm QB4 (λN x=>F3 (BP (Co N) N) x) ⟨OD,(BO QMl BS),λ_ _ _=>rfl,mixed,(Cm (Cj func114 rfl rfl (by kernel_rfl)) (Cm (Cj func115 rfl rfl (by kernel_rfl)) (Cm (Cj func153 rfl rfl (by kernel_rfl)) Gv))),Gy,Gx⟩ func64 λN x=>Eq.trans (b:=F3 (λv=>Bd (Bc QAm QB4 6 N f64 [Z2] [false] [] 0 BN) N (aR v)) x) (by kernel_rfl) (by rw [funext (BR aR (QNA N) N)] <;> rfl)
def QJp:LT:=lT [(5,[4,17,18,19])]
noncomputable def QIL:=eN tab [(154,QRq),(155,QRr)]
noncomputable def oF (v:Y2×Int×Int×Y9):St:=⟨[(4,.row 0),sV 17 Z9 v.1,sV 18 Z2 v.2.1,sV 19 Z2 v.2.2.1],[(0,.row Z6 v.2.2.2)],[],4096⟩
def MK (BM:Y2×Int×Int×Y9->Option (Y9×Int)) (v:Y2×Int×Int×Y9):Option (Y9×Int):=
 bif decide (v.2.2.1 < v.2.1) then (BX v.1 v.2.2.1).bind λx4=>let x5:Int:=IntKind.i64.wrap ((v.2.2.2.length:Int) - 1);bif decide (0<=x5)&&decide (x5 < (v.2.2.2.length:Int)) then (nth v.2.2.2 (Int.toNat x5)).bind λx6=>((HY (x6,(v.2.2.1,(x4,())))).bind λx7=>bif !x7 then let x8:Y9:=([(v.2.2.1,(x4,()))]:Y9);bif Nat.ble 1 2&&Nat.ble (List.length v.2.2.2+x8.length) lim then let x9:Int:=IntKind.i64.wrap (v.2.2.1+1);BM (v.1,v.2.1,x9,(List.append v.2.2.2 x8)) else none else let FJ:Int:=IntKind.i64.wrap (v.2.2.1+1);BM (v.1,v.2.1,FJ,v.2.2.2)) else none else some (v.2.2.2,(0:Int))
def Lr (N:Nat) (BM:Y2×Int×Int×Y9->Option (Y9×Int)) (v:Y2×Int×Int×Y9):Option (Y9×Int):=MK BM v
theorem QNB (N:Nat) (s0) (v):(Bc QIL QJp 6 N f116 [dA,Z2] [true,false] [] 0 BN) s0 (oF v)=Lr N (λv=>s0 (oF v)) v:=by kernel_rfl
def Qe (BZ:Y2×Int×Int×Y9->Option (Y9×Int)) (x:Y2):Option (Y9×Int):=
 (KA (x.length:Int)).bind λx1=>bif !x1 then some (([]:List Y5),(2:Int)) else (BX x (0:Int)).bind λx2=>let x3:Y9:=([((0:Int),(x2,()))]:Y9);BZ (x,(x.length:Int),(0:Int),x3)
def Tk (x:Y2):Option (Y9×Int):=Qe (BP (Lr big) big) x
def QIw:Cb:=⟨[Z9],[dA,Z2],[true,false],λx=>Tk x⟩
theorem QQH:Bb prog 116 QIw:=DV QIL QJp (λN x=>Qe (BP (Lr N) N) x) (eO (BO QXV (BO QXW BS))) func116 λN x=>Eq.trans (b:=Qe (λv=>Bd (Bc QIL QJp 6 N f116 [dA,Z2] [true,false] [] 0 BN) N (oF v)) x) (by kernel_rfl) (by rw [funext (BR oF (QNB N) N)] <;> rfl)
def QJq:LT:=lT [(3,[3,11,12,13])]
noncomputable def QEn (mk:(α:Type)->Nat->α->List α):CO:={ tab:=tab,fs:=[(116,QIw)],inl:=[],rep:=mk }
noncomputable def oG (v:Y82):St:=⟨[(3,.row 0),sV 11 Z5 v.1,sV 12 Z2 v.2.1,sV 13 Z2 v.2.2.1],[(0,.row ZF v.2.2.2)],[],4096⟩
def Pk (mk:(α:Type)->Nat->α->List α) (BM:Y82->Option Y9) (v:Y82):Option Y9:=
 bif decide (v.2.2.1 < v.2.1) then (BX v.1 v.2.2.1).bind λx2=>bif decide (0<=v.2.2.1)&&decide (v.2.2.1 < (v.2.2.2.length:Int)) then let x3:Y2:=List.set v.2.2.2 (Int.toNat v.2.2.1) (IntKind.u64.wrap x2);let x4:Int:=IntKind.i64.wrap (v.2.2.1+1);BM (v.1,v.2.1,x4,x3) else none else (Tk v.2.2.2).bind λx5=>some x5.1
def FR (mk:(α:Type)->Nat->α->List α) (N:Nat) (BM:Y82->Option Y9) (v:Y82):Option Y9:=Pk mk BM v
theorem QNC (mk:(α:Type)->Nat->α->List α) (N:Nat) (s0) (v):(Bc (QEn mk) QJq 6 N f65 [dA] [true] [] 0 BN) s0 (oG v)=FR mk N (λv=>s0 (oG v)) v:=by kernel_rfl
def OO (mk:(α:Type)->Nat->α->List α) (BZ:Y82->Option Y9) (x:Y2):Option Y9:=
 bif decide (0<=(x.length:Int))&&(decide ((x.length:Int)<=(x.length:Int))&&(decide ((x.length:Int)<=68719476736)&&true)) then let x1:Y2:=mk Int (Int.toNat (x.length:Int)) (0:Int);BZ (x,(x.length:Int),(0:Int),x1) else none
def TH (mk:(α:Type)->Nat->α->List α) (N:Nat) (x:Y2):Option Y9:=OO mk (BP (FR mk N) N) x
theorem QZd (mk:(α:Type)->Nat->α->List α) (N:Nat) (x:Y2):rise (QEn mk) QJq 6 N f65 [Z5] [dA] [true] x=TH mk N x:=Eq.trans (b:=OO mk (λv=>Bd (Bc (QEn mk) QJq 6 N f65 [dA] [true] [] 0 BN) N (oG v)) x) (by kernel_rfl) (by rw [funext (BR oG (QNC mk N) N)];rfl)
def J7 (x:Y2):Option Y9:=TH (λ_=>List.replicate) big x
def QPX:Cb:=⟨[Z5],[dA],[true],λx=>J7 x⟩
theorem QWl:Bb prog 65 QPX:=rzl (E:=QEn (λ_=>List.replicate)) (TH (λ_=>List.replicate)) (eO (BO QQH BS)) func65 (QZd (λ_=>List.replicate))
def QJr:LT:=lT [(3,[3,11,12,13])]
noncomputable def QEo (mk:(α:Type)->Nat->α->List α):CO:={ tab:=tab,fs:=[(116,QIw)],inl:=[],rep:=mk }
noncomputable def oH (v:Y82):St:=⟨[(3,.row 0),sV 11 Z9 v.1,sV 12 Z2 v.2.1,sV 13 Z2 v.2.2.1],[(0,.row ZF v.2.2.2)],[],4096⟩
def Lu (mk:(α:Type)->Nat->α->List α) (BM:Y82->Option Y9) (v:Y82):Option Y9:=
 bif decide (v.2.2.1 < v.2.1) then (BX v.1 v.2.2.1).bind λx2=>bif decide (0<=v.2.2.1)&&decide (v.2.2.1 < (v.2.2.2.length:Int)) then let x3:Y2:=List.set v.2.2.2 (Int.toNat v.2.2.1) x2;let x4:Int:=IntKind.i64.wrap (v.2.2.1+1);BM (v.1,v.2.1,x4,x3) else none else (Tk v.2.2.2).bind λx5=>some x5.1
def EH (mk:(α:Type)->Nat->α->List α) (N:Nat) (BM:Y82->Option Y9) (v:Y82):Option Y9:=Lu mk BM v
theorem QND (mk:(α:Type)->Nat->α->List α) (N:Nat) (s0) (v):(Bc (QEo mk) QJr 6 N f66 [dA] [true] [] 0 BN) s0 (oH v)=EH mk N (λv=>s0 (oH v)) v:=by kernel_rfl
def Jy (mk:(α:Type)->Nat->α->List α) (BZ:Y82->Option Y9) (x:Y2):Option Y9:=
 bif decide (0<=(x.length:Int))&&(decide ((x.length:Int)<=(x.length:Int))&&(decide ((x.length:Int)<=68719476736)&&true)) then let x1:Y2:=mk Int (Int.toNat (x.length:Int)) (0:Int);BZ (x,(x.length:Int),(0:Int),x1) else none
def OY (mk:(α:Type)->Nat->α->List α) (N:Nat) (x:Y2):Option Y9:=Jy mk (BP (EH mk N) N) x
theorem QZe (mk:(α:Type)->Nat->α->List α) (N:Nat) (x:Y2):rise (QEo mk) QJr 6 N f66 [Z9] [dA] [true] x=OY mk N x:=Eq.trans (b:=Jy mk (λv=>Bd (Bc (QEo mk) QJr 6 N f66 [dA] [true] [] 0 BN) N (oH v)) x) (by kernel_rfl) (by rw [funext (BR oH (QND mk N) N)];rfl)
def GN (x:Y2):Option Y9:=OY (λ_=>List.replicate) big x
def QPY:Cb:=⟨[Z9],[dA],[true],λx=>GN x⟩
theorem QWm:Bb prog 66 QPY:=rzl (E:=QEo (λ_=>List.replicate)) (OY (λ_=>List.replicate)) (eO (BO QQH BS)) func66 (QZe (λ_=>List.replicate))
def QXy:LT:=lT []
noncomputable def QVE:=eN tab [(60,QGS),(61,QWT),(62,QPQ),(63,QPV),(64,QPW),(65,QPX),(66,QPY)]
def QG (x:Y1×Int×Y2):Option (Y0×Int×Int):=
 (BX x.1.2.2.1 x.2.1).bind λx1=>((LZ x1.2.2.2.2.1).bind λx2=>bif x2 != 0 then let x3:Y0:=(([]:List Int),((0:Int),((0:Int),(([]:Y6),(([]:Y3),(([]:Y9),(([]:Y9),())))))));some (x3,(-1:Int),(12:Int)) else bif x.2.1==0 then bif decide (x1.2.1 > 0) then let x4:Y0:=(([]:List Int),((0:Int),((0:Int),(([]:Y6),(([]:Y3),(([]:Y9),(([]:Y9),())))))));some (x4,(-1:Int),(30:Int)) else bif x1.2.2.1 != (-1:Int) then let x5:Y0:=(([]:List Int),((0:Int),((0:Int),(([]:Y6),(([]:Y3),(([]:Y9),(([]:Y9),())))))));some (x5,(-1:Int),(30:Int)) else (EG (x.1,(x1,()))).bind λx6=>bif x6.2 != 0 then let x7:Y0:=(([]:List Int),((0:Int),((0:Int),(([]:Y6),(([]:Y3),(([]:Y9),(([]:Y9),())))))));some (x7,x6.1,x6.2) else (Fx ((x.1,(x1,())),x.2.2)).bind λx8=>bif !x8.2 then let x9:Y0:=(([]:List Int),((0:Int),((0:Int),(([]:Y6),(([]:Y3),(([]:Y9),(([]:Y9),())))))));some (x9,(-1:Int),(36:Int)) else (Og (x1.2.2.2.2.1,x1.2.1,(x1.2.2.2.1.length:Int))).bind λFJ=>((Fw (x1.2.2.2.2.1,FJ.1)).bind λFQ=>bif FQ != (-1:Int) then let Kw:Y0:=(([]:List Int),((0:Int),((0:Int),(([]:Y6),(([]:Y3),(([]:Y9),(([]:Y9),())))))));some (Kw,FQ,(38:Int)) else (J7 x8.1).bind λNC=>(GN FJ.1).bind λIh=>some ((x1.1,(x1.2.1,(x1.2.2.1,(x1.2.2.2.1,(x1.2.2.2.2.1,(NC,(Ih,x1.2.2.2.2.2.2.2))))))),(0:Int),(0:Int))) else (EG (x.1,(x1,()))).bind λH7=>bif H7.2 != 0 then let Qn:Y0:=(([]:List Int),((0:Int),((0:Int),(([]:Y6),(([]:Y3),(([]:Y9),(([]:Y9),())))))));some (Qn,H7.1,H7.2) else (Fx ((x.1,(x1,())),x.2.2)).bind λSg=>bif !Sg.2 then let VR:Y0:=(([]:List Int),((0:Int),((0:Int),(([]:Y6),(([]:Y3),(([]:Y9),(([]:Y9),())))))));some (VR,(-1:Int),(36:Int)) else (Og (x1.2.2.2.2.1,x1.2.1,(x1.2.2.2.1.length:Int))).bind λVL=>((Fw (x1.2.2.2.2.1,VL.1)).bind λVT=>bif VT != (-1:Int) then let x21:Y0:=(([]:List Int),((0:Int),((0:Int),(([]:Y6),(([]:Y3),(([]:Y9),(([]:Y9),())))))));some (x21,VT,(38:Int)) else (J7 Sg.1).bind λXd=>(GN VL.1).bind λx23=>some ((x1.1,(x1.2.1,(x1.2.2.1,(x1.2.2.2.1,(x1.2.2.2.2.1,(Xd,(x23,x1.2.2.2.2.2.2.2))))))),(0:Int),(0:Int))))
def G9 (x:Y1×Int×Y2):Option (Y0×Int×Int):=QG x
def QIx:Cb:=⟨[Z1,Z2,Z5],[Z0,Z2,Z2],[false,false,false],λx=>G9 x⟩
theorem QQI:Bb prog 30 QIx:=DV QVE QXy (λ_=>G9) (eO (BO QJa (BO Qbq (BO QWe (BO QWj (BO QWk (BO QWl (BO QWm BS)))))))) func30
def QJs:LT:=lT [(4,[0,1,12,13])]
noncomputable def QIM:=eN tab []
noncomputable def oI (v:Y9×Y9×Int×Int):St:=⟨[sV 0 dA v.1,sV 1 dA v.2.1,sV 12 Z2 v.2.2.1,sV 13 Z2 v.2.2.2],[],[],4096⟩
def Eu (BM:Y9×Y9×Int×Int->Option Bool) (v:Y9×Y9×Int×Int):Option Bool:=
 bif decide (v.2.2.2 < v.2.2.1) then (BX v.1 v.2.2.2).bind λx1=>((BX v.2.1 v.2.2.2).bind λx2=>bif !(R3 Z6 x1 x2) then some false else let x3:Int:=IntKind.i64.wrap (v.2.2.2+1);BM (v.1,v.2.1,v.2.2.1,x3)) else some true
def CB (N:Nat) (BM:Y9×Y9×Int×Int->Option Bool) (v:Y9×Y9×Int×Int):Option Bool:=Eu BM v
theorem QNE (N:Nat) (s0) (v):(Bc QIM QJs 6 N f42 [.bool] [false] [] 0 BN) s0 (oI v)=CB N (λv=>s0 (oI v)) v:=by kernel_rfl
def Cv (BZ:Y9×Y9×Int×Int->Option Bool) (x:Y9×Y9):Option Bool:=
 bif (x.1.length:Int) != (x.2.length:Int) then some false else BZ (x.1,x.2,(x.1.length:Int),(0:Int))
def Dt (x:Y9×Y9):Option Bool:=Cv (BP (CB big) big) x
def QPZ:Cb:=⟨[dA,dA],[.bool],[false],λx=>Dt x⟩
theorem QWn:Bb prog 42 QPZ:=DV QIM QJs (λN x=>Cv (BP (CB N) N) x) (eO BS) func42 λN x=>Eq.trans (b:=Cv (λv=>Bd (Bc QIM QJs 6 N f42 [.bool] [false] [] 0 BN) N (oI v)) x) (by kernel_rfl) (by rw [funext (BR oI (QNE N) N)] <;> rfl)
def QJt:LT:=lT [(6,[1,6,21,22,23])]
noncomputable def QIN:=eN tab [(28,QMd),(30,QIx),(31,QRv),(42,QPZ)]
noncomputable def oJ (v:Y63):St:=⟨[(1,.loc 0 []),sV 6 Z5 v.1,sV 21 (.slice Z0) v.2.1,sV 22 Z2 v.2.2.1,sV 23 Z2 v.2.2.2.1],[(0,.var Z1 (.val ⟨Z1,v.2.2.2.2⟩))],[],4096⟩
def Uf (BM:Y63->Option Y21) (v:Y63):Option Y21:=
 bif decide (v.2.2.2.1 < v.2.2.1) then (BX v.2.1 v.2.2.2.1).bind λx3=>((G9 (v.2.2.2.2,v.2.2.2.1,v.1)).bind λx4=>bif x4.2.2 != 0 then some (v.2.2.2.1,x4.2.1,x4.2.2) else (Dt (x3.2.2.2.2.2.1,x4.1.2.2.2.2.2.1)).bind λx5=>bif !x5 then some (v.2.2.2.1,(-1:Int),(32:Int)) else (Dt (x3.2.2.2.2.2.2.1,x4.1.2.2.2.2.2.2.1)).bind λx6=>bif !x6 then some (v.2.2.2.1,(-1:Int),(32:Int)) else let x7:Int:=IntKind.i64.wrap (v.2.2.2.1+1);BM (v.1,v.2.1,v.2.2.1,x7,v.2.2.2.2)) else some ((0:Int),(0:Int),(0:Int))
def GU (N:Nat) (BM:Y63->Option Y21) (v:Y63):Option Y21:=Uf BM v
theorem QNF (N:Nat) (s0) (v):(Bc QIN QJt 6 N f16 [Z2,Z2,Z2] [false,false,false] [] 0 BN) s0 (oJ v)=GU N (λv=>s0 (oJ v)) v:=by kernel_rfl
def QD (BZ:Y63->Option Y21) (x:Y1):Option Y21:=
 (Me x).bind λx1=>bif x1 != 0 then some ((0:Int),(0:Int),x1) else (Ik x.1).bind λx2=>BZ (x2,x.2.2.1,(x.2.2.1.length:Int),(0:Int),x)
def Ma (x:Y1):Option Y21:=QD (BP (GU big) big) x
def QIy:Cb:=⟨[Z1],[Z2,Z2,Z2],[false,false,false],λx=>Ma x⟩
theorem QQJ:Bb prog 16 QIy:=DV QIN QJt (λN x=>QD (BP (GU N) N) x) (eO (BO QS7 (BO QQI (BO QXb (BO QWn BS))))) func16 λN x=>Eq.trans (b:=QD (λv=>Bd (Bc QIN QJt 6 N f16 [Z2,Z2,Z2] [false,false,false] [] 0 BN) N (oJ v)) x) (by kernel_rfl) (by rw [funext (BR oJ (QNF N) N)] <;> rfl)
def QYO:LT:=lT []
noncomputable def QVe:=eN tab []
def U2 (x:vX):Option Bool:=
 bif decide (x.1>=0) then some (decide (x.1 < x.2)) else some false
def Ir (x:vX):Option Bool:=U2 x
def QJJ:Cb:=⟨[Z2,Z2],[.bool],[false],λx=>Ir x⟩
theorem QQf:Bb prog 29 QJJ:=DV QVe QYO (λ_=>Ir) (eO BS) func29
def QKH:LT:=lT [(3,[2,5,8,9,10])]
noncomputable def QIl:=eN tab [(72,QAy)]
noncomputable def pq (v:Y74):St:=⟨[(2,.loc 0 []),(5,.row 1),sV 8 Z5 v.1,sV 9 Z2 v.2.1,sV 10 Z2 v.2.2.1],[(0,.var Z7 (.val ⟨Z7,v.2.2.2.1⟩)),(1,.row Z2 v.2.2.2.2)],[],4096⟩
def Jt (BM:Y74->Option Y2) (v:Y74):Option Y2:=
 bif decide (v.2.2.1 < v.2.1) then (BX v.1 v.2.2.1).bind λx1=>((Bq (v.2.2.2.1,x1)).bind λx2=>bif Nat.ble 1 1&&Nat.ble (List.length v.2.2.2.2+List.length ([x2]:Y2)) lim then let x3:Y2:=List.append v.2.2.2.2 ([x2]:Y2);let x4:Int:=IntKind.i64.wrap (v.2.2.1+1);BM (v.1,v.2.1,x4,v.2.2.2.1,x3) else none) else some v.2.2.2.2
def Cy (N:Nat) (BM:Y74->Option Y2) (v:Y74):Option Y2:=Jt BM v
theorem QO9 (N:Nat) (s0) (v):(Bc QIl QKH 6 N f37 [Z5] [true] [] 0 BN) s0 (pq v)=Cy N (λv=>s0 (pq v)) v:=by kernel_rfl
def FP (BZ:Y74->Option Y2) (x:Y8×Y2):Option Y2:=
 BZ (x.2,(x.2.length:Int),(0:Int),x.1,([]:List Int))
def G8 (x:Y8×Y2):Option Y2:=FP (BP (Cy big) big) x
def QQ3:Cb:=⟨[Z7,Z5],[Z5],[true],λx=>G8 x⟩
theorem QXI:Bb prog 37 QQ3:=DV QIl QKH (λN x=>FP (BP (Cy N) N) x) (eO (BO QDA BS)) func37 λN x=>Eq.trans (b:=FP (λv=>Bd (Bc QIl QKH 6 N f37 [Z5] [true] [] 0 BN) N (pq v)) x) (by kernel_rfl) (by rw [funext (BR pq (QO9 N) N)] <;> rfl)
def QYP:LT:=lT []
noncomputable def QVf:=eN tab [(28,QMd),(29,QJJ),(34,QS0),(35,QS2),(36,QJM),(37,QQ3)]
def Di (x:Y92):Option nT:=
 (Me x.1).bind λx1=>bif x1 != 0 then some (([]:List Int),([]:List Int),x1) else (Ir (x.2.1,(x.1.2.2.1.length:Int))).bind λx2=>bif !x2 then some (([]:List Int),([]:List Int),(2:Int)) else (BX x.1.2.2.1 x.2.1).bind λx3=>(Ir (x.2.2,(x3.2.2.2.2.1.length:Int))).bind λx4=>bif !x4 then some (([]:List Int),([]:List Int),(2:Int)) else (BX x.1.2.2.1 x.2.1).bind λx5=>(BX (x.1,(x5,())).2.1.2.2.2.2.1 x.2.2).bind λx6=>(F5 ((x.1,(x5,())),x6)).bind λx7=>bif !x7 then some (([]:List Int),([]:List Int),(16:Int)) else (G7 ((x.1,(x5,())),x6)).bind λx8=>bif !x8 then some (([]:List Int),([]:List Int),(30:Int)) else (OT x6).bind λx9=>(G8 ((x.1,(x5,())),x9.1)).bind λFJ=>(G8 ((x.1,(x5,())),x9.2.1)).bind λFQ=>some (FJ,FQ,(0:Int))
def Mc (x:Y92):Option nT:=Di x
def QQ4:Cb:=⟨[Z1,Z2,Z2],[Z5,Z5,Z2],[true,false,false],λx=>Mc x⟩
theorem QXJ:Bb prog 12 QQ4:=DV QVf QYP (λ_=>Mc) (eO (BO QS7 (BO QQf (BO QXg (BO QXi (BO QMl (BO QXI BS))))))) func12
def QYQ:LT:=lT []
noncomputable def QVg:=eN tab []
def ET (x:Y6):Option Y6:=
 bif List.isEmpty x then vw (some ([]:List (Y2×Y22))) (let x1:Y6:=([]:Y6);bif Nat.ble 1 2&&Nat.ble (List.length x1+x.length) lim then some (List.append x1 x) else none) else let x2:Y6:=([]:Y6);bif Nat.ble 1 2&&Nat.ble (List.length x2+x.length) lim then some (List.append x2 x) else none
def C9 (x:Y6):Option Y6:=ET x
def QQ6:Cb:=⟨[Z8],[Z8],[true],λx=>C9 x⟩
theorem QXL:Bb prog 32 QQ6:=DV QVg QYQ (λ_=>C9) (eO BS) func32
def QYR:LT:=lT []
noncomputable def QVh:=eN tab []
def EU (x:Y3):Option Y3:=
 bif List.isEmpty x then vw (some ([]:List Sj)) (let x1:Y3:=([]:Y3);bif Nat.ble 1 4&&Nat.ble (List.length x1+x.length) lim then some (List.append x1 x) else none) else let x2:Y3:=([]:Y3);bif Nat.ble 1 4&&Nat.ble (List.length x2+x.length) lim then some (List.append x2 x) else none
def DC (x:Y3):Option Y3:=EU x
def QQ7:Cb:=⟨[LX],[LX],[true],λx=>DC x⟩
theorem QXM:Bb prog 33 QQ7:=DV QVh QYR (λ_=>DC) (eO BS) func33
def QYS:LT:=lT []
noncomputable def QVi:=eN tab [(28,QMd),(29,QJJ),(30,QIx),(31,QRv),(32,QQ6),(33,QQ7)]
def Ia (x:Y1×Int):Option (Y0×Int):=
 (Me x.1).bind λx1=>bif x1 != 0 then let x2:Y0:=(([]:List Int),((0:Int),((0:Int),(([]:Y6),(([]:Y3),(([]:Y9),(([]:Y9),())))))));some (x2,x1) else (Ir (x.2,(x.1.2.2.1.length:Int))).bind λx3=>bif !x3 then let x4:Y0:=(([]:List Int),((0:Int),((0:Int),(([]:Y6),(([]:Y3),(([]:Y9),(([]:Y9),())))))));some (x4,(2:Int)) else (Ik x.1.1).bind λx5=>((G9 (x.1,x.2,x5)).bind λx6=>bif x6.2.2 != 0 then let x7:Y0:=(([]:List Int),((0:Int),((0:Int),(([]:Y6),(([]:Y3),(([]:Y9),(([]:Y9),())))))));some (x7,x6.2.2) else (C9 x6.1.2.2.2.1).bind λx8=>(DC x6.1.2.2.2.2.1).bind λx9=>some ((x6.1.1,(x6.1.2.1,(x6.1.2.2.1,(x8,(x9,x6.1.2.2.2.2.2))))),(0:Int)))
def H9 (x:Y1×Int):Option (Y0×Int):=Ia x
def QQ8:Cb:=⟨[Z1,Z2],[Z0,Z2],[false,false],λx=>H9 x⟩
theorem QXN:Bb prog 11 QQ8:=DV QVi QYS (λ_=>H9) (eO (BO QS7 (BO QQf (BO QQI (BO QXb (BO QXL (BO QXM BS))))))) func11
def QYU:LT:=lT []
noncomputable def QVk:=eN tab [(16,QIy)]
def QAA (x:Y1):Option Int:=
 (Ma x).bind λx1=>some x1.2.2
def Oy (x:Y1):Option Int:=QAA x
def QQA:Cb:=⟨[Z1],[Z2],[false],λx=>Oy x⟩
theorem QXP:Bb prog 20 QQA:=DV QVk QYU (λ_=>Oy) (eO (BO QQJ BS)) func20
end Go.Proofs.YtjcnhegjiffgpaaGreatDoor
